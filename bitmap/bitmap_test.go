package bitmap_test

import (
	"math"
	"math/rand"
	"slices"
	"strings"
	"testing"

	"annalist/bitmap"
)

// numbers are the numbers that are in a set, as the chapter says: one by one, by their bits.
func numbers(s string) []int {
	var l []int
	for at := range len(s) {
		for rest := range 8 {
			if s[at]&(1<<rest) != 0 {
				l = append(l, 8*at+rest)
			}
		}
	}
	return l
}

// set is a set of so many bytes with these numbers in it.
func set(size int, l []int) string {
	b := make([]byte, size)
	for _, i := range l {
		b[i/8] |= 1 << (i % 8)
	}
	return string(b)
}

// sets are sets of no byte, of each byte alone, and of more, some by chance.
func sets() []string {
	l := []string{
		"",
		"\x00\x00", "\xff\xff", "\x00\xff", "\xff\x00", "\x80\x01", "\x01\x80", "\x7f\xfe", "\xfe\x7f",
		"\x03\x02\x80", "\xff\xff\x01", "\xff\xff\xff", "\x00\x00\x00", "\xff\xfe\xff",
		"ab", "\u00e9", "a\u20acb", // bytes, whatever runes they make
		strings.Repeat("\xff", 9), strings.Repeat("\x00", 9), strings.Repeat("\xff", 8) + "\x7f",
		strings.Repeat("\xff", 256), strings.Repeat("\x00", 256), strings.Repeat("\x00", 255) + "\x80",
	}
	for c := range 256 {
		l = append(l, string([]byte{byte(c)}))
	}
	r := rand.New(rand.NewSource(5))
	for range 60 {
		b := make([]byte, 1+r.Intn(12))
		for i := range b {
			b[i] = [3]byte{0, 0xff, byte(r.Intn(256))}[r.Intn(3)]
		}
		l = append(l, string(b))
	}
	return l
}

// outside are numbers that a set of so many bytes has no room for.
func outside(size int) []int {
	l := []int{math.MaxInt, math.MaxInt - 7, math.MinInt, math.MinInt + 1, math.MinInt32, 1 << 40}
	for i := range 20 {
		l = append(l, -1-i, 8*size+i)
	}
	return l
}

// given are the numbers that Each gives.
func given(s string) []int {
	var l []int
	bitmap.Each(s)(func(i int) bool {
		l = append(l, i)
		return true
	})
	return l
}

// P5.1

func TestEmptyHasTheBytesThatItsNumbersNeed(t *testing.T) {
	for _, c := range []struct{ n, size int }{
		{1, 1}, {2, 1}, {7, 1}, {8, 1}, {9, 2}, {15, 2}, {16, 2}, {17, 3}, {20, 3},
		{63, 8}, {64, 8}, {65, 9}, {1023, 128}, {1024, 128}, {1025, 129}, {2047, 256}, {2048, 256}, {2049, 257},
		{1 << 20, 1 << 17}, {1<<20 + 1, 1<<17 + 1},
	} {
		if got := bitmap.Empty(c.n); got != strings.Repeat("\x00", c.size) {
			t.Errorf("Empty(%d) has %d bytes, not %d, or not all are 0", c.n, len(got), c.size)
		}
	}
}

func TestEmptyOfNoNumber(t *testing.T) {
	for _, n := range []int{0, -1, -2, -7, -8, -9, -16, -1024, math.MinInt32, math.MinInt, math.MinInt + 1} {
		if got := bitmap.Empty(n); got != "" {
			t.Errorf("Empty(%d) has %d bytes", n, len(got))
		}
	}
}

func TestEmptyOfMoreThanIsPromisedEnds(t *testing.T) {
	for _, n := range []int{math.MaxInt, math.MaxInt - 6, math.MaxInt - 7, 1 << 50, 8*math.MaxInt32 + 1} {
		if got := bitmap.Empty(n); got != "" {
			t.Errorf("Empty(%d) has %d bytes", n, len(got))
		}
	}
}

func TestHas(t *testing.T) {
	for _, s := range sets() {
		l := numbers(s)
		for i := range 8 * len(s) {
			if got := bitmap.Has(s, i); got != slices.Contains(l, i) {
				t.Errorf("Has(% x, %d) = %t", s, i, got)
			}
		}
	}
}

func TestHasOfNumbersWithoutRoom(t *testing.T) {
	for _, s := range sets() {
		for _, i := range outside(len(s)) {
			if bitmap.Has(s, i) {
				t.Errorf("Has(% x, %d)", s, i)
			}
		}
	}
}

func TestCount(t *testing.T) {
	for _, c := range []struct {
		s string
		n int
	}{
		{"", 0}, {"\x00", 0}, {"\x01", 1}, {"\x80", 1}, {"\xff", 8}, {"\x03\x02\x80", 4}, {"\xff\xff\xff", 24}, {"\x00\x10\x00", 1},
		{strings.Repeat("\xff", 256), 2048}, {strings.Repeat("\x11", 1<<16), 1 << 17},
	} {
		if got := bitmap.Count(c.s); got != c.n {
			t.Errorf("Count of %d bytes = %d, not %d", len(c.s), got, c.n)
		}
	}
	for _, s := range sets() {
		if got := bitmap.Count(s); got != len(numbers(s)) {
			t.Errorf("Count(% x) = %d, not %d", s, got, len(numbers(s)))
		}
	}
}

// P5.2

func TestWith(t *testing.T) {
	for _, c := range []struct {
		s    string
		i    int
		in   bool
		want string
	}{
		{"\x00\x00", 3, true, "\x08\x00"},
		{"\x00\x00", 0, true, "\x01\x00"},
		{"\x00\x00", 7, true, "\x80\x00"},
		{"\x00\x00", 8, true, "\x00\x01"},
		{"\x00\x00", 15, true, "\x00\x80"},
		{"\xff\xff", 9, false, "\xff\xfd"},
		{"\x08\x00", 3, false, "\x00\x00"},
		{"\x08\x00", 3, true, "\x08\x00"},
		{"\x08\x00", 4, false, "\x08\x00"},
	} {
		if got, ok := bitmap.With(c.s, c.i, c.in); got != c.want || !ok {
			t.Errorf("With(% x, %d, %t) = % x, %t", c.s, c.i, c.in, got, ok)
		}
	}
}

func TestWithLeavesAllOthers(t *testing.T) {
	for _, s := range sets() {
		l := numbers(s)
		for i := range 8 * len(s) {
			others := slices.DeleteFunc(slices.Clone(l), func(j int) bool { return j == i })
			if got, ok := bitmap.With(s, i, false); got != set(len(s), others) || !ok {
				t.Errorf("With(% x, %d, false) = % x, %t", s, i, got, ok)
			}
			if got, ok := bitmap.With(s, i, true); got != set(len(s), append(others, i)) || !ok {
				t.Errorf("With(% x, %d, true) = % x, %t", s, i, got, ok)
			}
		}
		if !slices.Equal(numbers(s), l) {
			t.Errorf("% x was changed", s)
		}
	}
}

func TestWithOfNumbersWithoutRoom(t *testing.T) {
	for _, s := range sets() {
		for _, i := range outside(len(s)) {
			for _, in := range []bool{true, false} {
				if got, ok := bitmap.With(s, i, in); got != s || ok {
					t.Errorf("With(% x, %d, %t) = % x, %t", s, i, in, got, ok)
				}
			}
		}
	}
}

// P5.3

// lowest is what P5.3 says, sought from below's end of all numbers that a set has room for.
func lowest(s string, from, below int) (int, bool) {
	least, found := 0, false
	for i := 8*len(s) - 1; i >= 0; i-- {
		if i >= from && i < below && s[i/8]&(1<<(i%8)) == 0 {
			least, found = i, true
		}
	}
	return least, found
}

func TestLowest(t *testing.T) {
	for _, c := range []struct {
		s           string
		from, below int
		want        int
		ok          bool
	}{
		{"\x08\x00", 3, 16, 4, true},
		{"\x08\x00", 3, 5, 4, true},
		{"\x08\x00", 3, 4, 0, false},
		{"\x08\x00", 0, 16, 0, true},
		{"\x01\x00", 0, 16, 1, true},
		{"\x01\x00", -5, 16, 1, true},
		{"\x01\x00", math.MinInt, math.MaxInt, 1, true},
		{"\xff\xff\x01", 3, 20, 17, true},
		{"\xff\xff\x01", 3, 17, 0, false},
		{"\xff\xff\x01", 3, 18, 17, true},
		{"\xff\xff\x7f", 3, 100, 23, true},
		{"\xff", 0, 100, 0, false},
		{"", 0, 100, 0, false},
		{"\x00", 0, 0, 0, false},
		{"\x00", 0, 1, 0, true},
		{"\x00", 0, -1, 0, false},
		{"\x00", -9, -8, 0, false},
		{"\x00", 7, 8, 7, true},
		{"\x00", 7, 9, 7, true},
		{"\x00", 8, 9, 0, false},
		{"\x00", 5, 5, 0, false},
		{"\x00", 5, 4, 0, false},
		{"\x00", math.MaxInt, math.MaxInt, 0, false},
		{"\x00", math.MaxInt, math.MinInt, 0, false},
		{"\x00", math.MinInt, math.MinInt, 0, false},
	} {
		if got, ok := bitmap.Lowest(c.s, c.from, c.below); got != c.want || ok != c.ok {
			t.Errorf("Lowest(% x, %d, %d) = %d, %t", c.s, c.from, c.below, got, ok)
		}
	}
}

func TestLowestOfAllBounds(t *testing.T) {
	for _, s := range sets() {
		if len(s) > 12 {
			continue
		}
		for from := -3; from < 8*len(s)+4; from++ {
			for below := -3; below < 8*len(s)+4; below++ {
				want, found := lowest(s, from, below)
				if got, ok := bitmap.Lowest(s, from, below); got != want || ok != found {
					t.Fatalf("Lowest(% x, %d, %d) = %d, %t, not %d, %t", s, from, below, got, ok, want, found)
				}
			}
		}
	}
}

func TestLowestOfLongSets(t *testing.T) {
	full := strings.Repeat("\xff", 256)
	if got, ok := bitmap.Lowest(full, 0, math.MaxInt); got != 0 || ok {
		t.Errorf("of a full set %d, %t", got, ok)
	}
	for _, i := range []int{0, 1, 7, 8, 1023, 1024, 2040, 2047} {
		s, _ := bitmap.With(full, i, false)
		if got, ok := bitmap.Lowest(s, 0, 2048); got != i || !ok {
			t.Errorf("of a set without %d alone %d, %t", i, got, ok)
		}
		if got, ok := bitmap.Lowest(s, i+1, 2048); got != 0 || ok {
			t.Errorf("behind %d, of a set without it alone %d, %t", i, got, ok)
		}
	}
}

// P5.4

func TestEach(t *testing.T) {
	for _, s := range sets() {
		if got := given(s); !slices.Equal(got, numbers(s)) {
			t.Errorf("Each(% x) gives %v", s, got)
		}
	}
}

func TestEachEndsWhereYieldIsFalse(t *testing.T) {
	for _, s := range sets() {
		l := numbers(s)
		for most := 1; most <= min(len(l), 30); most++ {
			var got []int
			bitmap.Each(s)(func(i int) bool {
				got = append(got, i)
				return len(got) < most
			})
			if !slices.Equal(got, l[:most]) {
				t.Errorf("Each(% x) gives %v where %d are wanted", s, got, most)
			}
		}
	}
}

func TestEachIsRangedOver(t *testing.T) {
	var got []int
	for i := range bitmap.Each("\x03\x02\x80") {
		if i == 9 {
			continue
		}
		got = append(got, i)
		if i == 23 {
			break
		}
	}
	if !slices.Equal(got, []int{0, 1, 23}) {
		t.Errorf("%v", got)
	}
}

func TestEachBeginsAnewWithEachCall(t *testing.T) {
	each := bitmap.Each("\x15\x80")
	want := []int{0, 2, 4, 15}
	for range each {
		break
	}
	var outer, inner []int
	for i := range each {
		outer = append(outer, i)
		for j := range each {
			inner = append(inner, j)
		}
	}
	if !slices.Equal(outer, want) || !slices.Equal(inner, slices.Repeat(want, 4)) {
		t.Errorf("%v, %v", outer, inner)
	}
}

func TestEachGivenNothing(t *testing.T) {
	for _, s := range sets() {
		bitmap.Each(s)(nil)
	}
}

// P5.5

func TestEachGivesCountNumbersEachInTheSet(t *testing.T) {
	for _, s := range append(sets(), bitmap.Empty(0), bitmap.Empty(1000)) {
		l := given(s)
		if len(l) != bitmap.Count(s) {
			t.Errorf("Each(% x) gives %d numbers, Count tells %d", s, len(l), bitmap.Count(s))
		}
		for _, i := range l {
			if !bitmap.Has(s, i) {
				t.Errorf("Each(% x) gives %d, which it hasn't", s, i)
			}
		}
	}
}

func TestSetsThatAreMadeAndUnmade(t *testing.T) {
	r := rand.New(rand.NewSource(55))
	for _, room := range []int{1, 8, 9, 100, 2048} {
		s, in := bitmap.Empty(room), map[int]bool{}
		for range 500 {
			i, put := r.Intn(room), r.Intn(3) > 0
			var ok bool
			if s, ok = bitmap.With(s, i, put); !ok || bitmap.Has(s, i) != put {
				t.Fatalf("With %d, %t of %d: %t", i, put, room, ok)
			}
			delete(in, i)
			if put {
				in[i] = true
			}
			if bitmap.Count(s) != len(in) || len(s) != (room+7)/8 {
				t.Fatalf("%d numbers, not %d, in %d bytes", bitmap.Count(s), len(in), len(s))
			}
		}
		for i := range bitmap.Each(s) {
			if !in[i] {
				t.Errorf("Each gives %d, which was taken out", i)
			}
		}
	}
}

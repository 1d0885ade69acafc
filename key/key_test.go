package key_test

import (
	"math"
	"math/rand"
	"slices"
	"strings"
	"testing"

	"annalist/api"
	"annalist/key"
)

// eight are a number's bytes as bits.Ordered is said to write them: n + 2^63, the highest first.
func eight(n int) string {
	u := uint64(n) + 1<<63
	var b []byte
	for i := range 8 {
		b = append(b, byte(u>>(56-8*i)))
	}
	return string(b)
}

// joined is the key of numbers, as P9.1 says.
func joined(l []int) string {
	s := ""
	for _, n := range l {
		s += eight(n)
	}
	return s
}

// edges are numbers at which bytes or signs turn.
func edges() []int {
	l := []int{0, 1, -1, 2, -2, 255, 256, -255, -256, -257, 1 << 30, 1 << 40, math.MaxInt32, math.MinInt32}
	return append(l, math.MaxInt, math.MaxInt-1, math.MinInt, math.MinInt+1, 0x0102030405060708)
}

// lists are lists of up to four numbers: all short ones of few numbers, each edge, and some by chance.
func lists() [][]int {
	few := []int{math.MinInt, -1, 0, 1, math.MaxInt}
	l := [][]int{nil}
	for at := 0; at < len(l) && len(l[at]) < 3; at++ {
		for _, n := range few {
			l = append(l, append(slices.Clone(l[at]), n))
		}
	}
	for _, n := range edges() {
		l = append(l, []int{n}, []int{3, n}, []int{n, 3, n, -7})
	}
	r := rand.New(rand.NewSource(9))
	for range 200 {
		var x []int
		for range r.Intn(5) {
			x = append(x, [3]int{r.Intn(5) - 2, int(r.Uint64()), edges()[r.Intn(len(edges()))]}[r.Intn(3)])
		}
		l = append(l, x)
	}
	return l
}

// texts are all texts of up to four bytes of which few are made, and some longer ones.
func texts() []string {
	l := []string{""}
	for at := 0; at < len(l) && len(l[at]) < 4; at++ {
		for _, c := range []byte{0, 'a', 254, 255} {
			l = append(l, l[at]+string([]byte{c}))
		}
	}
	l = append(l, "\u00e9", "\u00e9\u20ac", "\u20ac\xff", "\xc3", "\xef\xbf\xbd", "\x7f", "\x80", "\x80\xff", "b")
	l = append(l, strings.Repeat("\xff", 32), "a"+strings.Repeat("\xff", 300), strings.Repeat("a", 300), strings.Repeat("\xff", 300)+"a")
	for _, x := range [][]int{{1}, {1, 0}, {1, 255}, {2}, {-1}, {math.MaxInt}, {math.MaxInt, math.MaxInt}, {7, math.MaxInt}} {
		l = append(l, joined(x))
	}
	return l
}

// P9.1

func TestOf(t *testing.T) {
	for _, c := range []struct {
		l []int
		s string
	}{
		{nil, ""},
		{[]int{}, ""},
		{[]int{0}, "\x80\x00\x00\x00\x00\x00\x00\x00"},
		{[]int{1, -1}, "\x80\x00\x00\x00\x00\x00\x00\x01\x7f\xff\xff\xff\xff\xff\xff\xff"},
		{[]int{-1, 1}, "\x7f\xff\xff\xff\xff\xff\xff\xff\x80\x00\x00\x00\x00\x00\x00\x01"},
		{[]int{math.MinInt, math.MaxInt, 258}, strings.Repeat("\x00", 8) + strings.Repeat("\xff", 8) + "\x80\x00\x00\x00\x00\x00\x01\x02"},
		{[]int{math.MaxInt, math.MaxInt, math.MaxInt, math.MaxInt}, strings.Repeat("\xff", 32)},
	} {
		if got, e := key.Of(c.l...); got != c.s || e != api.OK {
			t.Errorf("Of(%d) = % x, %d, not % x", c.l, got, e, c.s)
		}
	}
	if got, e := key.Of(); got != "" || e != api.OK {
		t.Errorf("Of() = % x, %d", got, e)
	}
	if got, e := key.Of(1, -1); len(got) != 16 || e != api.OK {
		t.Errorf("Of(1, -1) = % x, %d", got, e)
	}
	for _, l := range lists() {
		if got, e := key.Of(l...); got != joined(l) || e != api.OK {
			t.Errorf("Of(%d) = % x, %d, not % x", l, got, e, joined(l))
		}
	}
}

func TestOfMoreThanFourNumbers(t *testing.T) {
	for _, size := range []int{5, 6, 7, 8, 31, 32, 33, 256, 1 << 16} {
		for _, n := range []int{0, 1, -1, math.MaxInt, math.MinInt} {
			l := slices.Repeat([]int{n}, size)
			if got, e := key.Of(l...); got != "" || e != api.ErrKey {
				t.Errorf("Of of %d numbers %d has %d bytes, error %d", size, n, len(got), e)
			}
		}
	}
	if got, e := key.Of(slices.Repeat([]int{7}, 4)...); len(got) != api.MaxKey || e != api.OK {
		t.Errorf("Of of four numbers has %d bytes, error %d", len(got), e)
	}
}

func TestOfLeavesWhatItIsGiven(t *testing.T) {
	all := []int{5, -6, 7, -8, 9, -10, 11}
	for size := range all {
		l := slices.Clone(all)
		s, _ := key.Of(l[:size]...)
		if !slices.Equal(l, all) {
			t.Errorf("Of of the first %d left %d", size, l)
		}
		clear(l)
		if size <= 4 && s != joined(all[:size]) {
			t.Errorf("Of of the first %d was changed with them: % x", size, s)
		}
	}
}

func TestSplit(t *testing.T) {
	for _, c := range []struct {
		s string
		l []int
	}{
		{"", nil},
		{"\x80\x00\x00\x00\x00\x00\x00\x00", []int{0}},
		{"\x80\x00\x00\x00\x00\x00\x00\x01\x7f\xff\xff\xff\xff\xff\xff\xff", []int{1, -1}},
		{strings.Repeat("\x00", 8) + strings.Repeat("\xff", 16), []int{math.MinInt, math.MaxInt, math.MaxInt}},
		{strings.Repeat("\x00", 32), []int{math.MinInt, math.MinInt, math.MinInt, math.MinInt}},
		{"annalistannalist", []int{0x616e6e616c697374 - 1<<63, 0x616e6e616c697374 - 1<<63}},
		{strings.Repeat("\u00e9", 4), []int{0x43a9c3a9c3a9c3a9}}, // bytes, not runes
	} {
		if got, e := key.Split(c.s); !slices.Equal(got, c.l) || e != api.OK {
			t.Errorf("Split(% x) = %d, %d, not %d", c.s, got, e, c.l)
		}
	}
}

func TestSplitOfWhatOfMakesNot(t *testing.T) {
	for size := range 600 {
		for _, c := range []string{"\x00", "\x80", "\xff", "8"} {
			l, e := key.Split(strings.Repeat(c, size))
			if size <= 32 && size%8 == 0 {
				if len(l) != size/8 || e != api.OK {
					t.Errorf("Split of %d bytes = %d, %d", size, l, e)
				}
			} else if len(l) != 0 || e != api.ErrKey {
				t.Errorf("Split of %d bytes = %d, %d", size, l, e)
			}
		}
	}
	for _, s := range []string{"abc", strings.Repeat("\u00e9", 8) + "\u00e9", joined([]int{1, 2, 3, 4, 5}), joined([]int{1}) + "\x80"} {
		if l, e := key.Split(s); len(l) != 0 || e != api.ErrKey {
			t.Errorf("Split(% x) = %d, %d", s, l, e)
		}
	}
}

func TestSplitAnswersNewMemory(t *testing.T) {
	s := joined([]int{1, 2, 3})
	a, _ := key.Split(s)
	b, _ := key.Split(s)
	_ = append(a[:0], 7, 8, 9, 10)
	if c, e := key.Split(s); !slices.Equal(b, []int{1, 2, 3}) || !slices.Equal(c, b) || e != api.OK {
		t.Errorf("two answers of Split share memory: %d, %d", b, c)
	}
}

// P9.2

func TestUnder(t *testing.T) {
	for _, c := range []struct {
		s, front string
		under    bool
	}{
		{"", "", true},
		{"a", "", true},
		{"", "a", false},
		{"abc", "ab", true},
		{"abc", "abc", true},
		{"abc", "abcd", false},
		{"a", "ab", false},
		{"abc", "bc", false},
		{"abc", "ac", false},
		{"Abc", "ab", false},
		{"\u00e9", "\xc3", true}, // a half rune is bytes, too
		{"\xff\xfe", "\xff", true},
		{"\xff", "\xef\xbf\xbd", false},
		{"\x00", "\x00\x00", false},
		{joined([]int{1, -1}), joined([]int{1}), true},
		{joined([]int{1, -1}), joined([]int{-1}), false},
		{joined([]int{256}), joined([]int{1}), false},
	} {
		if got := key.Under(c.s, c.front); got != c.under {
			t.Errorf("Under(% x, % x) = %t", c.s, c.front, got)
		}
	}
	for _, s := range texts() {
		for _, front := range texts() {
			want := len(s) >= len(front) && s[:len(front)] == front
			if got := key.Under(s, front); got != want {
				t.Errorf("Under(% x, % x) = %t", s, front, got)
			}
		}
	}
}

func TestPast(t *testing.T) {
	for _, c := range []struct{ s, past string }{
		{"", ""},
		{"\xff", ""},
		{"\xff\xff", ""},
		{strings.Repeat("\xff", 1000), ""},
		{"\x00", "\x01"},
		{"\xfe", "\xff"},
		{"\x7f", "\x80"},
		{"az", "a{"},
		{"a\xff", "b"},
		{"a\xff\xff\xff", "b"},
		{"a\xff\x00", "a\xff\x01"},
		{"a\xff\xfe", "a\xff\xff"},
		{"\xff\x00\xff", "\xff\x01"},
		{"\xff\xfe\xff", "\xff\xff"},
		{"a\x00", "a\x01"},
		{"\u00e9", "\xc3\xaa"},
		{"\xc3\xff", "\xc4"},
		{"\xef\xbf\xbd\xff", "\xef\xbf\xbe"},
		{strings.Repeat("a", 500) + strings.Repeat("\xff", 500), strings.Repeat("a", 499) + "b"},
		{joined([]int{1}), joined([]int{2})},
		{joined([]int{-1}), "\x80"},
		{joined([]int{255}), "\x80\x00\x00\x00\x00\x00\x01"},
		{joined([]int{math.MaxInt}), ""},
		{joined([]int{4, math.MaxInt}), joined([]int{5})},
	} {
		if got := key.Past(c.s); got != c.past {
			t.Errorf("Past(% x) = % x, not % x", c.s, got, c.past)
		}
	}
}

// P9.3

func TestSplitOfOfIsTheNumbers(t *testing.T) {
	for _, l := range lists() {
		s, e := key.Of(l...)
		if e != api.OK {
			t.Errorf("Of(%d): error %d", l, e)
		}
		if got, e := key.Split(s); !slices.Equal(got, l) || e != api.OK {
			t.Errorf("Split(Of(%d)) = %d, %d", l, got, e)
		}
	}
}

func TestOfSplitIsTheKey(t *testing.T) {
	r := rand.New(rand.NewSource(93))
	for range 500 {
		b := make([]byte, 8*r.Intn(5))
		for i := range b {
			b[i] = [4]byte{0, 0x80, 0xff, byte(r.Intn(256))}[r.Intn(4)]
		}
		l, e := key.Split(string(b))
		if e != api.OK {
			t.Errorf("Split(% x): error %d", b, e)
		}
		if s, e := key.Of(l...); s != string(b) || e != api.OK {
			t.Errorf("Of(Split(% x)) = % x, %d", b, s, e)
		}
	}
}

func TestKeysAreInTheOrderOfTheirLists(t *testing.T) {
	l := lists()
	for _, a := range l {
		for _, b := range l {
			x, _ := key.Of(a...)
			y, _ := key.Of(b...)
			if got := strings.Compare(x, y); got != slices.Compare(a, b) {
				t.Fatalf("Of(%d) and Of(%d) compare as %d", a, b, got)
			}
		}
	}
	x, _ := key.Of(1)
	y, _ := key.Of(1, -1)
	z, _ := key.Of(1, 0)
	if x >= y || y >= z {
		t.Errorf("Of(1, -1) = % x is not above % x and below % x", y, x, z)
	}
}

func TestATextBeginsJustBelowPast(t *testing.T) {
	l := texts()
	for _, s := range l {
		past := key.Past(s)
		for _, text := range l {
			between := text >= s && (past == "" || text < past)
			if got := key.Under(text, s); got != between {
				t.Fatalf("Under(% x, % x) = %t, and Past is % x", text, s, got, past)
			}
		}
		if past != "" && (past <= s || key.Under(past, s)) {
			t.Errorf("Past(% x) = % x", s, past)
		}
	}
}

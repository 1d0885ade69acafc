package bits_test

import (
	"hash/adler32"
	"math"
	"slices"
	"strings"
	"testing"

	"annalist/api"
	"annalist/bits"
)

// numbers are 0, the largest number, the numbers about each power of two, and some whose bytes are all unlike.
func numbers() []uint64 {
	l := []uint64{0, math.MaxUint64, 0x0102030405060708, 0xf1e2d3c4b5a69788}
	for i := range 64 {
		p := uint64(1) << i
		l = append(l, p-1, p, p+1, ^p, -p)
	}
	n := uint64(88172645463325252)
	for range 500 {
		n ^= n << 13
		n ^= n >> 7
		n ^= n << 17
		l = append(l, n, n>>(n%64))
	}
	return l
}

// whole are the numbers with a sign that numbers has the bits of.
func whole() []int {
	var l []int
	for _, n := range numbers() {
		l = append(l, int(n))
	}
	return l
}

// P1.1

func TestFixedWritesTheLowestBytesFirst(t *testing.T) {
	const n = 0xf1e2d3c4b5a69788
	const all = "\x88\x97\xa6\xb5\xc4\xd3\xe2\xf1"
	for size := range 9 {
		if got := bits.Fixed(n, size); got != all[:size] {
			t.Errorf("Fixed(%#x, %d) = % x, not % x", uint64(n), size, got, all[:size])
		}
	}
	if got := bits.Fixed(258, 4); got != "\x02\x01\x00\x00" {
		t.Errorf("Fixed(258, 4) = % x", got)
	}
	if got := bits.Fixed(0, 8); got != "\x00\x00\x00\x00\x00\x00\x00\x00" {
		t.Errorf("Fixed(0, 8) = % x", got)
	}
}

func TestFixedAtSizesThatAreNone(t *testing.T) {
	for _, n := range numbers() {
		for _, size := range []int{-1, -2, -8, -255, -256, math.MinInt32, math.MinInt} {
			if got := bits.Fixed(n, size); got != "" {
				t.Errorf("Fixed(%#x, %d) = % x", n, size, got)
			}
		}
		for _, size := range []int{9, 10, 16, 255, 256, 257, math.MaxInt32, math.MaxInt} {
			if got := bits.Fixed(n, size); got != bits.Fixed(n, 8) || len(got) != 8 {
				t.Errorf("Fixed(%#x, %d) = % x", n, size, got)
			}
		}
	}
}

func TestUnfixed(t *testing.T) {
	for _, c := range []struct {
		s string
		n uint64
	}{
		{"", 0},
		{"\x00", 0},
		{"\x07", 7},
		{"\x80", 128},
		{"\xff", 255},
		{"\x02\x01", 258},
		{"\x00\x00\x01", 1 << 16},
		{"\x00\x00\x00\x80", 1 << 31},
		{"\xff\xff\xff\xff", math.MaxUint32},
		{"\x01\x02\x03\x04\x05", 0x0504030201},
		{"\x01\x02\x03\x04\x05\x06", 0x060504030201},
		{"\x01\x02\x03\x04\x05\x06\xf7", 0xf7060504030201},
		{"\x01\x02\x03\x04\x05\x06\x07\xf8", 0xf807060504030201},
		{"\x00\x00\x00\x00\x00\x00\x00\x80", 1 << 63},
		{"\xff\xff\xff\xff\xff\xff\xff\xff", math.MaxUint64},
		{"\x01\x02\x03\x04\x05\x06\x07\x08\x09", 0x0807060504030201},
		{"\x00\x00\x00\x00\x00\x00\x00\x00\x01", 0},
		{strings.Repeat("\x01", 8) + strings.Repeat("\xff", 1000), 0x0101010101010101},
		{"\u00e9", 0xa9c3},
	} {
		if got := bits.Unfixed(c.s); got != c.n {
			t.Errorf("Unfixed(% x) = %#x, not %#x", c.s, got, c.n)
		}
	}
}

// P1.2

func TestVar(t *testing.T) {
	for _, c := range []struct {
		n uint64
		s string
	}{
		{0, "\x00"},
		{1, "\x01"},
		{127, "\x7f"},
		{128, "\x80\x01"},
		{129, "\x81\x01"},
		{255, "\xff\x01"},
		{256, "\x80\x02"},
		{300, "\xac\x02"},
		{1<<14 - 1, "\xff\x7f"},
		{1 << 14, "\x80\x80\x01"},
		{1<<21 - 1, "\xff\xff\x7f"},
		{1 << 21, "\x80\x80\x80\x01"},
		{1 << 40, "\x80\x80\x80\x80\x80\x20"},
		{1<<63 - 1, "\xff\xff\xff\xff\xff\xff\xff\xff\x7f"},
		{1 << 63, "\x80\x80\x80\x80\x80\x80\x80\x80\x80\x01"},
		{math.MaxUint64, "\xff\xff\xff\xff\xff\xff\xff\xff\xff\x01"},
	} {
		if got := bits.Var(c.n); got != c.s {
			t.Errorf("Var(%#x) = % x, not % x", c.n, got, c.s)
		}
	}
}

func TestVarHasGroupsOfSevenBits(t *testing.T) {
	for _, n := range numbers() {
		s := bits.Var(n)
		rest := n
		for i := range len(s) {
			last := i == len(s)-1
			if uint64(s[i]&127) != rest&127 || (s[i] >= 128) == last || last && s[i] == 0 && i > 0 {
				t.Errorf("Var(%#x) = % x, wrong at %d", n, s, i)
			}
			rest >>= 7
		}
		if rest != 0 || s == "" {
			t.Errorf("Var(%#x) = % x is too short", n, s)
		}
	}
}

func TestUnvarWhateverStandsBehind(t *testing.T) {
	for _, n := range numbers() {
		s := bits.Var(n)
		for _, behind := range []string{"", "\x00", "\x01", "\x7f", "\x80", "\xff\xff", "x", s, strings.Repeat("\xff", 20)} {
			if got, k := bits.Unvar(s + behind); got != n || k != len(s) {
				t.Errorf("Unvar(% x) = %#x, %d, not %#x, %d", s+behind, got, k, n, len(s))
			}
		}
	}
}

func TestUnvarOfNone(t *testing.T) {
	full := strings.Repeat("\xff", 9)
	bare := strings.Repeat("\x80", 9)
	l := []string{"", "\x80\x00", "\xff\x00", "\xac\x82\x00", "\x80\x00\x01", "\x80\x80\x00"}
	for i := 1; i <= 30; i++ {
		l = append(l, strings.Repeat("\x80", i), strings.Repeat("\xff", i))
	}
	for i := 1; i <= 12; i++ { // a last group that isn't needed, ahead of others and alone
		l = append(l, strings.Repeat("\x80", i)+"\x00", strings.Repeat("\xff", i)+"\x00", strings.Repeat("\xff", i)+"\x00\x01")
	}
	for c := 2; c < 256; c++ { // more than 64 bits
		for _, behind := range []string{"", "\x00", "\x01"} {
			l = append(l, full+string([]byte{byte(c)})+behind, bare+string([]byte{byte(c)})+behind)
		}
	}
	l = append(l, full+"\x80\x01", full+"\x81\x00", bare+"\x80\x01", bare+"\x81\x01")
	l = append(l, strings.Repeat("\x80", 18)+"\x01", strings.Repeat("\x80", 64)+"\x01")
	for _, n := range numbers() { // cut off
		s := bits.Var(n)
		for i := range len(s) {
			l = append(l, s[:i])
		}
	}
	for _, s := range l {
		if n, k := bits.Unvar(s); n != 0 || k != 0 {
			t.Errorf("Unvar(% x) = %#x, %d, not 0, 0", s, n, k)
		}
	}
}

func TestUnvarOfAllShortTexts(t *testing.T) {
	for i := range 1 << 16 {
		a, b := byte(i), byte(i>>8)
		n, k := uint64(0), 0
		switch {
		case a < 128:
			n, k = uint64(a), 1
		case b > 0 && b < 128:
			n, k = uint64(a)-128+128*uint64(b), 2
		}
		if m, j := bits.Unvar(string([]byte{a, b})); m != n || j != k {
			t.Fatalf("Unvar(%x %x) = %d, %d, not %d, %d", a, b, m, j, n, k)
		}
	}
}

// P1.3

func TestFold(t *testing.T) {
	for _, c := range []struct {
		n int
		u uint64
	}{
		{0, 0},
		{-1, 1},
		{1, 2},
		{-2, 3},
		{2, 4},
		{-128, 255},
		{128, 256},
		{math.MaxInt32, 1<<32 - 2},
		{math.MinInt32, 1<<32 - 1},
		{1 << 40, 1 << 41},
		{-1 << 40, 1<<41 - 1},
		{1 << 62, 1 << 63},
		{-1 << 62, 1<<63 - 1},
		{math.MaxInt64, math.MaxUint64 - 1},
		{math.MinInt64 + 1, math.MaxUint64 - 2},
		{math.MinInt64, math.MaxUint64},
	} {
		if got := bits.Fold(c.n); got != c.u {
			t.Errorf("Fold(%d) = %d, not %d", c.n, got, c.u)
		}
		if got := bits.Unfold(c.u); got != c.n {
			t.Errorf("Unfold(%d) = %d, not %d", c.u, got, c.n)
		}
	}
}

// P1.4

func TestOrdered(t *testing.T) {
	for _, c := range []struct {
		n int
		s string
	}{
		{math.MinInt64, "\x00\x00\x00\x00\x00\x00\x00\x00"},
		{math.MinInt64 + 1, "\x00\x00\x00\x00\x00\x00\x00\x01"},
		{-256, "\x7f\xff\xff\xff\xff\xff\xff\x00"},
		{-1, "\x7f\xff\xff\xff\xff\xff\xff\xff"},
		{0, "\x80\x00\x00\x00\x00\x00\x00\x00"},
		{1, "\x80\x00\x00\x00\x00\x00\x00\x01"},
		{258, "\x80\x00\x00\x00\x00\x00\x01\x02"},
		{0x0102030405060708, "\x81\x02\x03\x04\x05\x06\x07\x08"},
		{math.MaxInt64, "\xff\xff\xff\xff\xff\xff\xff\xff"},
	} {
		if got := bits.Ordered(c.n); got != c.s {
			t.Errorf("Ordered(%d) = % x, not % x", c.n, got, c.s)
		}
		if got, e := bits.Unordered(c.s); got != c.n || e != api.OK {
			t.Errorf("Unordered(% x) = %d, %d, not %d", c.s, got, e, c.n)
		}
	}
}

func TestUnorderedOfOtherLengths(t *testing.T) {
	for size := range 100 {
		for _, c := range []string{"\x00", "\x80", "\xff", "8"} {
			n, e := bits.Unordered(strings.Repeat(c, size))
			if size != 8 && (n != 0 || e != api.ErrBad) {
				t.Errorf("Unordered of %d bytes = %d, %d", size, n, e)
			}
			if size == 8 && e != api.OK {
				t.Errorf("Unordered of 8 bytes % x: %d", c, e)
			}
		}
	}
	if n, e := bits.Unordered(bits.Ordered(5) + "\x00"); n != 0 || e != api.ErrBad {
		t.Errorf("Unordered with a byte behind = %d, %d", n, e)
	}
	if n, e := bits.Unordered(strings.Repeat("\u00e9", 8)); n != 0 || e != api.ErrBad {
		t.Errorf("Unordered of 8 runes, 16 bytes = %d, %d", n, e)
	}
	if n, e := bits.Unordered(strings.Repeat("\u00e9", 4)); n != 0x43a9c3a9c3a9c3a9 || e != api.OK {
		t.Errorf("Unordered of 4 runes, 8 bytes = %#x, %d", n, e)
	}
}

// P1.5

func TestNot(t *testing.T) {
	if got := bits.Not(""); got != "" {
		t.Errorf("Not of the empty text = % x", got)
	}
	var all, turned []byte
	for c := range 256 {
		all = append(all, byte(c))
		turned = append(turned, byte(255-c))
		if got := bits.Not(string([]byte{byte(c)})); got != string([]byte{byte(255 - c)}) {
			t.Errorf("Not(%x) = % x", c, got)
		}
	}
	if got := bits.Not(string(all)); got != string(turned) {
		t.Errorf("Not of all bytes = % x", got)
	}
	if got := bits.Not("a\u00e9b"); got != "\x9e\x3c\x56\x9d" {
		t.Errorf("Not(a\u00e9b) = % x", got)
	}
}

func TestSum(t *testing.T) {
	for _, c := range []struct {
		s   string
		sum uint32
	}{
		{"", 1},
		{"\x00", 65536 + 1},
		{"\x00\x00", 2*65536 + 1},
		{"a", 98*65536 + 98},
		{"ab", 294*65536 + 196},
		{"ba", 295*65536 + 196},
		{"\xff", 256*65536 + 256},
		{"Wikipedia", 0x11e60398},
		{strings.Repeat("\xff", 256) + "\xef", 0x07fffff0}, // a is 65520, the prime less one
		{strings.Repeat("\xff", 256) + "\xf0", 0x08000000}, // a is the prime: its rest is 0
		{strings.Repeat("\xff", 256) + "\xf1", 0x08010001},
	} {
		if got := bits.Sum(c.s); got != c.sum {
			t.Errorf("Sum(%q) = %#x, not %#x", c.s, got, c.sum)
		}
	}
}

func TestSumOfLongTexts(t *testing.T) {
	var mixed []byte
	for i, n := range numbers() {
		mixed = append(mixed, bits.Fixed(n*uint64(i+1), 8)...)
	}
	for _, unit := range []string{"\x00", "\x01", "\x7f", "\x80", "\xff", "ab\xff", string(mixed)} {
		for _, times := range []int{1, 2, 255, 256, 257, 5552, 5553, 65520, 65521, 65536} {
			if len(unit)*times > 1<<20 {
				continue
			}
			s := strings.Repeat(unit, times)
			if got := bits.Sum(s); got != adler32.Checksum([]byte(s)) {
				t.Errorf("Sum of %d times %d bytes = %#x, not %#x", times, len(unit), got, adler32.Checksum([]byte(s)))
			}
		}
	}
}

// P1.6

func TestWhatIsWrittenIsReadAsItWas(t *testing.T) {
	for _, n := range numbers() {
		for size := range 9 {
			want := n
			if size < 8 {
				want = n & (1<<(8*size) - 1)
			}
			if got := bits.Unfixed(bits.Fixed(n, size)); got != want {
				t.Errorf("Unfixed(Fixed(%#x, %d)) = %#x", n, size, got)
			}
		}
		if got := bits.Unfixed(bits.Fixed(n, 8) + "\x09\xff"); got != n {
			t.Errorf("Unfixed(Fixed(%#x, 8) and more) = %#x", n, got)
		}
		if got, k := bits.Unvar(bits.Var(n)); got != n || k != len(bits.Var(n)) {
			t.Errorf("Unvar(Var(%#x)) = %#x, %d", n, got, k)
		}
		if got := bits.Fold(bits.Unfold(n)); got != n {
			t.Errorf("Fold(Unfold(%#x)) = %#x", n, got)
		}
	}
	for _, n := range whole() {
		if got := bits.Unfold(bits.Fold(n)); got != n {
			t.Errorf("Unfold(Fold(%d)) = %d", n, got)
		}
		if got, e := bits.Unordered(bits.Ordered(n)); got != n || e != api.OK {
			t.Errorf("Unordered(Ordered(%d)) = %d, %d", n, got, e)
		}
	}
}

func TestTextsOfOrderedAreInTheOrderOfNumbers(t *testing.T) {
	l := whole()
	slices.Sort(l)
	l = slices.Compact(l)
	for i, n := range l {
		if len(bits.Ordered(n)) != 8 {
			t.Errorf("Ordered(%d) has %d bytes", n, len(bits.Ordered(n)))
		}
		if i > 0 && bits.Ordered(l[i-1]) >= bits.Ordered(n) {
			t.Errorf("Ordered(%d) is not below Ordered(%d)", l[i-1], n)
		}
	}
}

func TestNotOfNot(t *testing.T) {
	for _, n := range numbers() {
		for _, s := range []string{"", bits.Fixed(n, 3), bits.Fixed(n, 8), strings.Repeat(bits.Fixed(n, 7), 40)} {
			if got := bits.Not(bits.Not(s)); got != s {
				t.Errorf("Not(Not(% x)) = % x", s, got)
			}
			if len(bits.Not(s)) != len(s) || s != "" && bits.Not(s) == s {
				t.Errorf("Not(% x) = % x", s, bits.Not(s))
			}
		}
	}
}

func TestOneByteOtherwiseHasAnotherSum(t *testing.T) {
	long := strings.Repeat("\xff", 300) + strings.Repeat("\x00\x80", 2500)
	for _, s := range []string{"a", "annalist", "\x00\x00\x00", long} {
		places := []int{0, len(s) / 2, len(s) - 1}
		for _, at := range places {
			b := []byte(s)
			for c := range 256 {
				b[at] = byte(c)
				if same := byte(c) == s[at]; (bits.Sum(string(b)) == bits.Sum(s)) != same {
					t.Errorf("a text of %d bytes, with %x at %d: the Sum is the same or not, wrongly", len(s), c, at)
				}
			}
		}
	}
}

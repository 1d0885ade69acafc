package block_test

import (
	"fmt"
	"math"
	"math/rand"
	"strings"
	"testing"

	"annalist/api"
	"annalist/block"
)

// all is a mask that keeps every late write.
const all = math.MaxUint64

// made is a disk of n blocks.
func made(t *testing.T, n int) *block.Disk {
	t.Helper()
	d, e := block.New(n)
	if e != api.OK || d == nil {
		t.Fatalf("New(%d): %v, %d", n, d, e)
	}
	return d
}

// write writes blocks, which is to be done.
func write(t *testing.T, d *block.Disk, at int, data string) {
	t.Helper()
	if e := d.Write(at, data); e != api.OK {
		t.Fatalf("Write(%d, %.10q): %d", at, data, e)
	}
}

// flush flushes, which is to be done.
func flush(t *testing.T, d *block.Disk) {
	t.Helper()
	if e := d.Flush(); e != api.OK {
		t.Fatalf("Flush: %d", e)
	}
}

// full is data, filled up with bytes 0.
func full(data string) string {
	return data + strings.Repeat("\x00", api.Size-len(data))
}

// holds tells whether the blocks from 0 on are these, filled up with bytes 0.
func holds(t *testing.T, d *block.Disk, want ...string) {
	t.Helper()
	for at, data := range want {
		if got, e := d.Read(at); e != api.OK || got != full(data) {
			t.Errorf("block %d is %q (error %d), not %q", at, strings.TrimRight(got, "\x00"), e, data)
		}
	}
}

// is tells whether a call's error is that.
func is(t *testing.T, call string, got, want api.Errno) {
	t.Helper()
	if got != want {
		t.Errorf("%s: error %d, not %d", call, got, want)
	}
}

// noRead tells whether Read has that error, and nothing beside it.
func noRead(t *testing.T, d *block.Disk, at int, want api.Errno) {
	t.Helper()
	if got, e := d.Read(at); got != "" || e != want {
		t.Errorf("Read(%d) = %.10q, %d, not the error %d alone", at, got, e, want)
	}
}

// dark tells whether the disk has no power, whatever is asked.
func dark(t *testing.T, d *block.Disk) {
	t.Helper()
	noRead(t, d, 0, api.ErrCrash)
	noRead(t, d, -1, api.ErrCrash)
	noRead(t, d, d.Len(), api.ErrCrash)
	is(t, "Write without power", d.Write(0, "x"), api.ErrCrash)
	is(t, "Write of no block without power", d.Write(d.Len(), "x"), api.ErrCrash)
	is(t, "Write of too much without power", d.Write(0, strings.Repeat("x", 257)), api.ErrCrash)
	is(t, "Flush without power", d.Flush(), api.ErrCrash)
}

// What no call made.

func TestNoDisk(t *testing.T) {
	for _, d := range []*block.Disk{nil, {}, new(block.Disk)} {
		for range 2 {
			if d.Len() != 0 {
				t.Errorf("Len of none = %d", d.Len())
			}
			for _, at := range []int{math.MinInt, -1, 0, 1, math.MaxInt} {
				noRead(t, d, at, api.ErrNil)
				is(t, "Write on none", d.Write(at, "x"), api.ErrNil)
				is(t, "Write of too much on none", d.Write(at, strings.Repeat("x", 257)), api.ErrNil)
			}
			is(t, "Flush of none", d.Flush(), api.ErrNil)
			for _, n := range []int{5, -1, 0} {
				d.Limit(n) // 0 is what the next calls meet, if it is kept
			}
			is(t, "Flush of none behind Limit", d.Flush(), api.ErrNil)
			d.Crash(all, 0, 1)
		}
	}
}

// P2.1

func TestNew(t *testing.T) {
	for _, n := range []int{1, 2, 10, 255, 256, 2047, 2048} {
		d := made(t, n)
		if d.Len() != n {
			t.Errorf("Len of New(%d) = %d", n, d.Len())
		}
		for at := range n {
			if got, e := d.Read(at); got != full("") || e != api.OK {
				t.Fatalf("New(%d): block %d is %q (error %d)", n, at, got, e)
			}
		}
		noRead(t, d, n, api.ErrBlock)
	}
	for _, n := range []int{math.MinInt, -2048, -1, 0, 2049, 4096, math.MaxInt32, math.MaxInt} {
		if d, e := block.New(n); d != nil || e != api.ErrArg {
			t.Errorf("New(%d) = %v, %d", n, d, e)
		}
	}
}

func TestNewHasNoLimit(t *testing.T) {
	d := made(t, 1)
	for range 3000 {
		write(t, d, 0, "a")
		flush(t, d)
	}
}

func TestNewIsSafe(t *testing.T) {
	d := made(t, 2)
	d.Crash(0, 0, 0)
	holds(t, d, "", "")
	if d.Len() != 2 {
		t.Errorf("Len behind a crash = %d", d.Len())
	}
}

func TestDisksShareNothing(t *testing.T) {
	a, b := made(t, 1), made(t, 1)
	write(t, a, 0, "a")
	flush(t, a)
	a.Limit(0)
	is(t, "Flush at the limit 0", a.Flush(), api.ErrCrash)
	holds(t, b, "")
	write(t, b, 0, "b")
	b.Crash(0, 0, 0)
	holds(t, b, "")
	dark(t, a)
}

// P2.2

func TestBlocksThereAreNot(t *testing.T) {
	for _, n := range []int{1, 3, 2048} {
		d := made(t, n)
		d.Limit(2)
		for _, at := range []int{math.MinInt, -256, -1, n, n + 1, 2049, math.MaxInt} {
			noRead(t, d, at, api.ErrBlock)
			is(t, fmt.Sprint("Write at ", at), d.Write(at, "x"), api.ErrBlock)
			is(t, fmt.Sprint("Write of too much at ", at), d.Write(at, strings.Repeat("x", 257)), api.ErrBlock)
		}
		write(t, d, n-1, "ab") // those that were refused took nothing off the limit
		write(t, d, 0, "ab")
		if got, e := d.Read(n - 1); got != full("ab") || e != api.OK {
			t.Errorf("the last block of %d is %q (error %d)", n, got, e)
		}
	}
}

func TestWriteFillsUp(t *testing.T) {
	d := made(t, 2)
	for size := range api.Size + 1 {
		write(t, d, 0, strings.Repeat("\xff", api.Size))
		data := strings.Repeat("y", size)
		write(t, d, 0, data)
		holds(t, d, data, "")
		flush(t, d)
		holds(t, d, data, "")
	}
	write(t, d, 1, "")
	holds(t, d, strings.Repeat("y", api.Size), "")
}

func TestWriteOfTooMuch(t *testing.T) {
	d := made(t, 1)
	write(t, d, 0, "a")
	d.Limit(1)
	for _, size := range []int{257, 258, 512, 65536} {
		is(t, fmt.Sprint("Write of ", size), d.Write(0, strings.Repeat("x", size)), api.ErrBig)
		holds(t, d, "a")
	}
	is(t, "Write of 128 runes, 256 bytes", d.Write(0, strings.Repeat("\u00e9", 128)), api.OK)
	holds(t, d, strings.Repeat("\xc3\xa9", 128))
	d.Limit(0)
	is(t, "Write of too much at the limit 0", d.Write(0, strings.Repeat("\u00e9", 129)), api.ErrBig)
	holds(t, d, strings.Repeat("\xc3\xa9", 128))
	is(t, "Write of no block at the limit 0", d.Write(1, ""), api.ErrBlock)
	holds(t, d, strings.Repeat("\xc3\xa9", 128))
}

func TestReadIsTheLastLateWriteOrTheSafeBlock(t *testing.T) {
	d := made(t, 3)
	write(t, d, 0, "abcd")
	holds(t, d, "abcd", "", "")
	write(t, d, 2, "x")
	write(t, d, 0, "ef")
	holds(t, d, "ef", "", "x")
	flush(t, d)
	holds(t, d, "ef", "", "x")
	write(t, d, 0, "g")
	holds(t, d, "g", "", "x")
	d.Crash(0, 0, 0)
	holds(t, d, "ef", "", "x")
}

func TestFlushInOrder(t *testing.T) {
	d := made(t, 2)
	for _, data := range []string{"one", "two", "three", "four"} {
		write(t, d, 0, data)
		write(t, d, 1, data+" too")
	}
	flush(t, d)
	d.Crash(0, 0, 0)
	holds(t, d, "four", "four too")
}

func TestFlushLeavesNothingLate(t *testing.T) {
	d := made(t, 2)
	write(t, d, 0, "old")
	write(t, d, 0, "new")
	flush(t, d)
	d.Crash(1, 0, 1) // numbered from 0 again: neither kept anew nor torn
	holds(t, d, "new", "")
	write(t, d, 1, "a")
	flush(t, d)
	write(t, d, 1, "bb")
	d.Crash(1, 0, 1)
	holds(t, d, "new", "b")
	flush(t, d)
	flush(t, d)
	d.Crash(all, 0, 0)
	holds(t, d, "new", "b")
}

func TestLimitIsCounted(t *testing.T) {
	for n := range 6 {
		d := made(t, 2)
		d.Limit(n)
		for i := range n {
			if _, e := d.Read(i % 2); e != api.OK {
				t.Fatalf("Read within the limit: %d", e)
			}
			if i%2 == 0 {
				write(t, d, 0, "x")
			} else {
				flush(t, d)
			}
		}
		if _, e := d.Read(0); e != api.OK {
			t.Errorf("Read at the limit 0: %d: a Read takes no power", e)
		}
		noRead(t, d, 2, api.ErrBlock)
		if n%2 == 0 {
			is(t, "Write at the limit 0", d.Write(1, "y"), api.ErrCrash)
		} else {
			is(t, "Flush at the limit 0", d.Flush(), api.ErrCrash)
		}
		dark(t, d)
		if d.Len() != 2 {
			t.Errorf("Len without power = %d", d.Len())
		}
	}
}

func TestAtTheLimitNothingIsDone(t *testing.T) {
	d := made(t, 2)
	write(t, d, 0, "a")
	d.Limit(0)
	is(t, "Flush at the limit 0", d.Flush(), api.ErrCrash)
	d.Crash(0, 0, 0)
	holds(t, d, "", "")

	write(t, d, 0, "a")
	d.Limit(0)
	is(t, "Write at the limit 0", d.Write(1, "b"), api.ErrCrash)
	is(t, "Write without power", d.Write(1, "c"), api.ErrCrash)
	is(t, "Flush without power", d.Flush(), api.ErrCrash)
	d.Crash(all, -1, 0)
	holds(t, d, "a", "")
}

// P2.3

func TestLimitIsSetAnew(t *testing.T) {
	for _, none := range []int{-1, -2, math.MinInt} {
		d := made(t, 1)
		d.Limit(0)
		d.Limit(none)
		for range 300 {
			write(t, d, 0, "a")
			flush(t, d)
		}
		d.Limit(3)
		write(t, d, 0, "b")
		d.Limit(2)
		write(t, d, 0, "c")
		flush(t, d)
		is(t, "Flush at the limit 0", d.Flush(), api.ErrCrash)
		dark(t, d)
	}
	d := made(t, 1)
	d.Limit(1)
	d.Limit(math.MaxInt)
	for range 300 {
		flush(t, d)
	}
}

func TestLimitGivesNoPower(t *testing.T) {
	d := made(t, 1)
	write(t, d, 0, "a")
	d.Limit(0)
	is(t, "Flush at the limit 0", d.Flush(), api.ErrCrash)
	for _, n := range []int{-1, 7, 0} {
		d.Limit(n)
		dark(t, d)
	}
	d.Crash(1, -1, 0) // there is no limit then, though it was set without power
	holds(t, d, "a")
	for range 300 {
		write(t, d, 0, "b")
		flush(t, d)
	}
}

func TestCrashTakesTheLimitAway(t *testing.T) {
	for n := range 4 {
		d := made(t, 1)
		d.Limit(n)
		d.Crash(0, 0, 0)
		for range 300 {
			write(t, d, 0, "b")
			flush(t, d)
		}
	}
}

func TestCrashKeepsWhatTheMaskSays(t *testing.T) {
	for mask := range uint64(32) {
		for _, more := range []uint64{0, 1 << 5, 1 << 63, all - 31} { // bits of no late write
			d := made(t, 5)
			want := make([]string, 5)
			for at := range 5 {
				write(t, d, at, fmt.Sprint("old ", at))
				want[at] = fmt.Sprint("old ", at)
			}
			flush(t, d)
			for at := range 5 {
				write(t, d, at, fmt.Sprint("new ", at))
				if mask>>at&1 == 1 {
					want[at] = fmt.Sprint("new ", at)
				}
			}
			d.Crash(mask|more, -1, 0)
			holds(t, d, want...)
			d.Crash(0, -1, 0)
			holds(t, d, want...)
		}
	}
}

func TestCrashInOrder(t *testing.T) {
	for _, c := range []struct {
		mask uint64
		want string
	}{{0, "safe"}, {1, "a"}, {2, "b"}, {3, "b"}, {4, "c"}, {5, "c"}, {6, "c"}, {7, "c"}} {
		d := made(t, 1)
		write(t, d, 0, "safe")
		flush(t, d)
		for _, data := range []string{"a", "b", "c"} {
			write(t, d, 0, data)
		}
		d.Crash(c.mask, 3, 0)
		holds(t, d, c.want)
	}
}

func TestMaskHasRestsBy64(t *testing.T) {
	for _, mask := range []uint64{0, 1, 1 << 31, 1 << 32, 1 << 63, 1<<63 | 1, 0xf1e2d3c4b5a69788, all} {
		const n = 200
		d := made(t, n)
		want := make([]string, n)
		for i := range n {
			write(t, d, i, "x")
			if mask&(1<<(i%64)) != 0 {
				want[i] = "x"
			}
		}
		d.Crash(mask, -1, 0)
		holds(t, d, want...)
	}
}

func TestCrashTearsAtEachByte(t *testing.T) {
	safe, late := strings.Repeat("s", api.Size), strings.Repeat("l", api.Size)
	for cut := -2; cut < api.Size+3; cut++ {
		d := made(t, 2)
		write(t, d, 1, safe)
		flush(t, d)
		write(t, d, 1, late)
		d.Crash(1, 0, cut)
		n := min(max(cut, 0), api.Size)
		holds(t, d, "", late[:n]+safe[n:])
	}
	for _, cut := range []int{math.MinInt, -256, -1, 0} {
		d := made(t, 1)
		write(t, d, 0, late)
		d.Crash(1, 0, cut)
		holds(t, d, "")
	}
	for _, cut := range []int{256, 257, 512, math.MaxInt} {
		d := made(t, 1)
		write(t, d, 0, late)
		d.Crash(1, 0, cut)
		holds(t, d, late)
	}
}

func TestTornZeros(t *testing.T) {
	d := made(t, 1)
	write(t, d, 0, "abcdef")
	flush(t, d)
	write(t, d, 0, "x") // and bytes 0: they are late, too
	d.Crash(1, 0, 3)
	holds(t, d, "x\x00\x00def")
}

func TestWhichIsTorn(t *testing.T) {
	for _, c := range []struct {
		mask uint64
		torn int
		want []string
	}{
		{7, 0, []string{"Aa", "BB", "CC"}},
		{7, 1, []string{"AA", "Bb", "CC"}},
		{7, 2, []string{"AA", "BB", "Cc"}},
		{7, 3, []string{"AA", "BB", "CC"}},
		{7, -1, []string{"AA", "BB", "CC"}},
		{7, 64, []string{"AA", "BB", "CC"}}, // no rest is taken of torn
		{7, -64, []string{"AA", "BB", "CC"}},
		{7, math.MinInt, []string{"AA", "BB", "CC"}},
		{7, math.MaxInt, []string{"AA", "BB", "CC"}},
		{5, 1, []string{"AA", "bb", "CC"}}, // what is lost is not torn
		{5, 2, []string{"AA", "bb", "Cc"}}, // the number counts those that are lost
		{0, 0, []string{"aa", "bb", "cc"}},
	} {
		d := made(t, 3)
		for at, data := range []string{"aa", "bb", "cc"} {
			write(t, d, at, data)
		}
		flush(t, d)
		for at, data := range []string{"AA", "BB", "CC"} {
			write(t, d, at, data)
		}
		d.Crash(c.mask, c.torn, 1)
		holds(t, d, c.want...)
	}
}

func TestTornOverWhatWasKept(t *testing.T) {
	for _, c := range []struct {
		mask uint64
		torn int
		want string
	}{
		{3, 1, "cb"}, // over the late write that is safe by now
		{2, 1, "ca"}, // over the safe block
		{3, 0, "cc"}, // torn, and then written whole
		{1, 0, "ba"},
		{1, 1, "bb"},
	} {
		d := made(t, 1)
		write(t, d, 0, "aa")
		flush(t, d)
		write(t, d, 0, "bb")
		write(t, d, 0, "cc")
		d.Crash(c.mask, c.torn, 1)
		holds(t, d, c.want)
	}
}

func TestTornBehind64(t *testing.T) {
	d := made(t, 200)
	want := make([]string, 200)
	for at := range 200 {
		write(t, d, at, "xy")
	}
	want[3], want[67], want[131], want[195] = "xy", "x", "xy", "xy"
	d.Crash(1<<3, 67, 1)
	holds(t, d, want...)
}

func TestCrashLeavesNothingLate(t *testing.T) {
	d := made(t, 2)
	write(t, d, 0, "lost")
	d.Crash(0, 0, 0)
	d.Crash(all, -1, 0)
	holds(t, d, "", "")
	flush(t, d)
	holds(t, d, "", "")
	write(t, d, 0, "kept")
	d.Crash(1, -1, 0) // numbered from 0 anew
	holds(t, d, "kept", "")
	write(t, d, 1, "new")
	d.Crash(2, -1, 0)
	holds(t, d, "kept", "")
}

func TestCrashWithoutPower(t *testing.T) {
	d := made(t, 2)
	write(t, d, 0, "aa")
	flush(t, d)
	d.Limit(2)
	write(t, d, 0, "bb")
	write(t, d, 1, "cc")
	is(t, "Write at the limit 0", d.Write(1, "dd"), api.ErrCrash)
	dark(t, d)
	d.Crash(3, 0, 1)
	holds(t, d, "ba", "cc")
	write(t, d, 0, "x")
	flush(t, d)
	holds(t, d, "x", "cc")
}

func TestExample(t *testing.T) {
	d := made(t, 2)
	write(t, d, 0, "ab")
	flush(t, d)
	write(t, d, 0, "cd")
	d.Crash(1, 0, 1)
	holds(t, d, "cb", "")
}

// P2.4

func TestWithoutACrashEachBlockIsWhatWasWrittenLast(t *testing.T) {
	r := rand.New(rand.NewSource(1))
	d := made(t, 20)
	want := make([]string, 20)
	for range 5000 {
		if r.Intn(10) == 0 {
			flush(t, d)
		}
		at := r.Intn(20)
		want[at] = some(r)
		write(t, d, at, want[at])
		holds(t, d, want...)
	}
}

func TestManyLateWrites(t *testing.T) {
	d := made(t, 2048)
	for i := range 100000 {
		write(t, d, i%2048, fmt.Sprint(i))
		if got, e := d.Read((i + 1) % 2048); e != api.OK || i < 2047 && got != full("") {
			t.Fatalf("Read behind %d writes: %d", i+1, e)
		}
	}
	d.Crash(all, -1, 0)
	holds(t, d, fmt.Sprint(99999/2048*2048))
}

// mirror is a disk as the chapter tells of it, word by word.
type mirror struct {
	safe  []string
	ats   []int
	datas []string
}

func (m *mirror) read(at int) string {
	for i := len(m.ats) - 1; i >= 0; i-- {
		if m.ats[i] == at {
			return m.datas[i]
		}
	}
	return m.safe[at]
}

func (m *mirror) flush() {
	for i, at := range m.ats {
		m.safe[at] = m.datas[i]
	}
	m.ats, m.datas = nil, nil
}

func (m *mirror) crash(mask uint64, torn, cut int) {
	cut = min(max(cut, 0), api.Size)
	for i, at := range m.ats {
		switch {
		case mask&(1<<(i%64)) == 0:
		case i == torn:
			m.safe[at] = m.datas[i][:cut] + m.safe[at][cut:]
		default:
			m.safe[at] = m.datas[i]
		}
	}
	m.ats, m.datas = nil, nil
}

// some is data of any length and any bytes.
func some(r *rand.Rand) string {
	b := make([]byte, r.Intn(api.Size+1))
	r.Read(b)
	return string(b)
}

func TestAnyCalls(t *testing.T) {
	for seed := range int64(60) {
		r := rand.New(rand.NewSource(seed))
		n := 1 + r.Intn(5)
		d := made(t, n)
		m := &mirror{}
		for range n {
			m.safe = append(m.safe, full(""))
		}
		limit, power := -1, true
		for range 600 {
			at := r.Intn(n)
			want := api.OK
			switch c := r.Intn(200); {
			case c < 6:
				mask, torn, cut := r.Uint64(), r.Intn(len(m.ats)+2)-1, r.Intn(270)-7
				d.Crash(mask, torn, cut)
				m.crash(mask, torn, cut)
				limit, power = -1, true
			case c < 10:
				limit = max(r.Intn(60)-10, -1)
				d.Limit(limit)
			case c < 12:
				if !power || limit == 0 {
					want, power = api.ErrCrash, false
				} else {
					limit = max(limit-1, -1)
					m.flush()
				}
				is(t, "Flush", d.Flush(), want)
			default:
				data := some(r)
				if !power || limit == 0 {
					want, power = api.ErrCrash, false
				} else {
					limit = max(limit-1, -1)
					m.ats, m.datas = append(m.ats, at), append(m.datas, full(data))
				}
				is(t, "Write", d.Write(at, data), want)
			}
			for at := range n {
				got, e := d.Read(at)
				if power && (got != m.read(at) || e != api.OK) || !power && (got != "" || e != api.ErrCrash) {
					t.Fatalf("seed %d: block %d is %q (error %d)", seed, at, got, e)
				}
			}
		}
	}
}

func TestACrashLeavesWhatWasThere(t *testing.T) {
	for seed := range int64(300) {
		r := rand.New(rand.NewSource(seed))
		d := made(t, 6)
		var there [6][]string // all that a block was since the last Flush, the safe one first
		for at := range there {
			there[at] = []string{full(some(r))}
			write(t, d, at, there[at][0])
		}
		flush(t, d)
		count := r.Intn(100)
		torn, cut := r.Intn(count+1), r.Intn(257)
		tornAt := -1
		for i := range count {
			at, data := r.Intn(5), full(some(r)) // block 5 isn't written anew
			write(t, d, at, data)
			there[at] = append(there[at], data)
			if i == torn {
				tornAt = at
			}
		}
		d.Crash(r.Uint64(), torn, cut)
		for at, l := range there {
			got, e := d.Read(at)
			if e != api.OK || !whole(got, l) && !(at == tornAt && pieced(got, l, cut)) {
				t.Errorf("seed %d: block %d is none that was there", seed, at)
			}
		}
	}
}

// whole tells whether a block is one of the list.
func whole(got string, l []string) bool {
	return pieced(got, l, api.Size)
}

// pieced tells whether a block has the first bytes of one of the list, and behind them those of one ahead of it, or of itself.
func pieced(got string, l []string, cut int) bool {
	for i, first := range l {
		for _, behind := range l[:i+1] {
			if got == first[:cut]+behind[cut:] {
				return true
			}
		}
	}
	return false
}

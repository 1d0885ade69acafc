package store_test

import (
	"encoding/binary"
	"fmt"
	"math"
	"math/rand"
	"slices"
	"strings"
	"testing"

	"annalist/api"
	"annalist/block"
	"annalist/store"
)

// all is a mask that keeps every late write.
const all = math.MaxUint64

// full is data, filled up with bytes 0.
func full(data string) string {
	return data + strings.Repeat("\x00", api.Size-len(data))
}

// four are a number's four lowest bytes, the lowest one first.
func four(n int) string {
	return string(binary.LittleEndian.AppendUint32(nil, uint32(n)))
}

// head is a head's bytes, as chapter 3 says.
func head(seq uint64, used, room, pages int) string {
	b := []byte(string(binary.LittleEndian.AppendUint64(nil, seq)) + four(used) + four(room) + four(pages))
	for _, c := range b {
		b = append(b, ^c)
	}
	return string(b)
}

// packed are pages as blocks, as chapter 3 says.
func packed(l ...api.Page) []string {
	s := four(len(l))
	for _, p := range l {
		s += four(p.At)
	}
	for len(s)%api.Size != 0 {
		s += "\x00"
	}
	var blocks []string
	for ; s != ""; s = s[api.Size:] {
		blocks = append(blocks, s[:api.Size])
	}
	for _, p := range l {
		blocks = append(blocks, full(p.Data))
	}
	return blocks
}

// disk is a disk of n blocks, which are safe: the first ones are these, the others are unlike one another.
func disk(t *testing.T, n int, first ...string) *block.Disk {
	t.Helper()
	d, e := block.New(n)
	if e != api.OK {
		t.Fatalf("a disk of %d blocks: error %d", n, e)
	}
	for at := range n {
		data := fmt.Sprintf("%d was here, ahead of all", at)
		if at < len(first) {
			data = first[at]
		}
		is(t, fmt.Sprint("the disk's Write at ", at), d.Write(at, data), api.OK)
	}
	is(t, "the disk's Flush", d.Flush(), api.OK)
	return d
}

// formatted is a disk that is made ready.
func formatted(t *testing.T, n, room int) *block.Disk {
	t.Helper()
	d := disk(t, n)
	is(t, fmt.Sprintf("Format of %d blocks with room %d", n, room), store.Format(d, room), api.OK)
	return d
}

// opened is a store that opens.
func opened(t *testing.T, d *block.Disk) *store.Store {
	t.Helper()
	s, e := store.Open(d)
	if e != api.OK || s == nil {
		t.Fatalf("Open: %v, error %d", s, e)
	}
	return s
}

// notOpened tells whether Open has that error, and nothing beside it.
func notOpened(t *testing.T, what string, d *block.Disk, want api.Errno) {
	t.Helper()
	if s, e := store.Open(d); s != nil || e != want {
		t.Errorf("Open of %s: %v, error %d, not the error %d alone", what, s, e, want)
	}
}

// blocks are all blocks of a disk.
func blocks(t *testing.T, d *block.Disk) []string {
	t.Helper()
	var l []string
	for at := range d.Len() {
		data, e := d.Read(at)
		if e != api.OK {
			t.Fatalf("the disk's Read of %d: error %d", at, e)
		}
		l = append(l, data)
	}
	return l
}

// same tells whether a disk has these blocks.
func same(t *testing.T, what string, d *block.Disk, want []string) {
	t.Helper()
	for at, data := range blocks(t, d) {
		if data != want[at] {
			t.Fatalf("%s: block %d is %.24q, not %.24q", what, at, data, want[at])
		}
	}
}

// is tells whether a call's error is that.
func is(t *testing.T, call string, got, want api.Errno) {
	t.Helper()
	if got != want {
		t.Errorf("%s: error %d, not %d", call, got, want)
	}
}

// write writes a page, which is to be done.
func write(t *testing.T, s *store.Store, at int, data string) {
	t.Helper()
	is(t, fmt.Sprintf("Write(%d, %.10q)", at, data), s.Write(at, data), api.OK)
}

// commit commits, which is to be done.
func commit(t *testing.T, s *store.Store) {
	t.Helper()
	is(t, "Commit", s.Commit(), api.OK)
}

// holds tells whether a page is that, filled up with bytes 0.
func holds(t *testing.T, s *store.Store, at int, want string) {
	t.Helper()
	if got, e := s.Read(at); got != full(want) || e != api.OK {
		t.Errorf("page %d is %.24q (error %d), not %.24q", at, got, e, want)
	}
}

// noRead tells whether Read has that error, and nothing beside it.
func noRead(t *testing.T, s *store.Store, at int, want api.Errno) {
	t.Helper()
	if got, e := s.Read(at); got != "" || e != want {
		t.Errorf("Read(%d) = %.10q, %d, not the error %d alone", at, got, e, want)
	}
}

// dirty tells whether the transaction's pages are these.
func dirty(t *testing.T, s *store.Store, want ...int) {
	t.Helper()
	if got := s.Dirty(); !slices.Equal(got, want) {
		t.Errorf("Dirty = %v, not %v", got, want)
	}
}

// refused tells whether all calls that have an error have that one, whatever they are asked.
func refused(t *testing.T, s *store.Store, want api.Errno) {
	t.Helper()
	for _, at := range []int{math.MinInt, -1, 0, 1, s.Len(), math.MaxInt} {
		noRead(t, s, at, want)
		is(t, fmt.Sprint("Write at ", at), s.Write(at, "x"), want)
		is(t, fmt.Sprint("Write of too much at ", at), s.Write(at, strings.Repeat("x", 257)), want)
	}
	is(t, "Commit", s.Commit(), want)
}

// step is a write of a block, or, where it is below 0, a flush.
type step struct {
	at   int
	data string
}

// flush makes all late writes safe.
var flush = step{at: -1}

// after is what blocks are behind steps, and a crash: it keeps what is late, or loses it.
func after(first []string, steps []step, kept bool) []string {
	safe, now := slices.Clone(first), slices.Clone(first)
	for _, x := range steps {
		if x.at < 0 {
			copy(safe, now)
		} else {
			now[x.at] = full(x.data)
		}
	}
	if kept {
		return now
	}
	return safe
}

// does tells whether a call does these steps on a disk, no others, and in that order; ready makes the disk, and the call.
func does(t *testing.T, what string, steps []step, ready func() (*block.Disk, func() api.Errno)) {
	t.Helper()
	for n := range len(steps) + 1 {
		for _, mask := range []uint64{0, all} {
			d, call := ready()
			first := blocks(t, d)
			d.Limit(n)
			want := api.ErrCrash
			if n == len(steps) {
				want = api.OK
			}
			name := fmt.Sprintf("%s, the power gone behind %d of %d steps, and late writes kept by %x", what, n, len(steps), mask)
			if got := call(); got != want {
				t.Fatalf("%s: error %d, not %d", name, got, want)
			}
			is(t, name+": one step more", d.Flush(), api.ErrCrash)
			d.Crash(mask, -1, 0)
			same(t, name, d, after(first, steps[:n], mask == all))
		}
	}
}

// What no call made.

func TestNoStore(t *testing.T) {
	for _, s := range []*store.Store{nil, {}, new(store.Store)} {
		for range 2 {
			if s.Len() != 0 {
				t.Errorf("Len of none = %d", s.Len())
			}
			refused(t, s, api.ErrNil)
			dirty(t, s)
			s.Back()
		}
	}
}

func TestNoDisk(t *testing.T) {
	for _, d := range []*block.Disk{nil, {}, new(block.Disk)} {
		for _, room := range []int{math.MinInt, -1, 0, 1, 3, math.MaxInt} {
			is(t, fmt.Sprint("Format of none, room ", room), store.Format(d, room), api.ErrNil)
		}
		notOpened(t, "none", d, api.ErrNil)
	}
}

// P4.1

func TestFormat(t *testing.T) {
	for _, c := range []struct{ blocks, room, pages int }{
		{4, 1, 1},
		{5, 1, 2},
		{5, 2, 1},
		{10, 1, 7},
		{10, 3, 5},
		{10, 7, 1},
		{300, 41, 257},
		{1027, 1, 1024},
		{1028, 1, 1024},
		{2048, 1, 1024},
		{2048, 1021, 1024},
		{2048, 1022, 1024},
		{2048, 1023, 1023},
		{2048, 2045, 1},
	} {
		what := fmt.Sprintf("Format of %d blocks with room %d", c.blocks, c.room)
		steps := []step{{1, ""}, {0, head(2, 0, c.room, c.pages)}, flush}
		does(t, what, steps, func() (*block.Disk, func() api.Errno) {
			d := disk(t, c.blocks)
			return d, func() api.Errno { return store.Format(d, c.room) }
		})
		s := opened(t, formatted(t, c.blocks, c.room))
		if s.Len() != c.pages {
			t.Errorf("%s: %d pages, not %d", what, s.Len(), c.pages)
		}
		dirty(t, s)
		holds(t, s, 0, fmt.Sprintf("%d was here, ahead of all", 2+c.room))
		noRead(t, s, c.pages, api.ErrBlock)
	}
}

func TestFormatWithRoomsThatCannotBe(t *testing.T) {
	for _, n := range []int{1, 2, 3, 4, 5, 10, 2047, 2048} {
		d := disk(t, n)
		first := blocks(t, d)
		d.Limit(0) // what is refused takes the power away, if it writes
		for _, room := range []int{math.MinInt, math.MinInt + 3, -2048, -1, 0, n - 2, n - 1, n, n + 1, 2048, math.MaxInt32, math.MaxInt} {
			if room >= 1 && room <= n-3 {
				continue
			}
			is(t, fmt.Sprintf("Format of %d blocks with room %d", n, room), store.Format(d, room), api.ErrArg)
		}
		same(t, "behind Formats that were refused", d, first)
	}
}

func TestFormatWithoutPower(t *testing.T) {
	for _, room := range []int{-1, 0, 1, 3, 8, 2048} {
		d := disk(t, 10)
		d.Limit(0)
		d.Flush()
		is(t, fmt.Sprint("Format without power, room ", room), store.Format(d, room), api.ErrCrash)
	}
}

func TestFormatOfADiskThatWasOne(t *testing.T) {
	d := formatted(t, 12, 4)
	s := opened(t, d)
	for i := range 5 {
		write(t, s, 0, fmt.Sprint("a", i))
		commit(t, s)
	}
	write(t, s, 0, "b")
	d.Limit(4) // the head that tells of b is put, but b isn't home
	is(t, "Commit", s.Commit(), api.ErrCrash)
	d.Crash(all, -1, 0)
	is(t, "Format", store.Format(d, 5), api.OK)
	s = opened(t, d)
	if s.Len() != 5 {
		t.Errorf("Len = %d, not 5", s.Len())
	}
	for at := range 5 {
		holds(t, s, at, fmt.Sprintf("%d was here, ahead of all", 7+at)) // it was page at + 1, and is as it was
	}
}

// P4.2

func TestOpenWithoutAHead(t *testing.T) {
	for n := range 12 {
		if n > 0 {
			notOpened(t, "a disk of junk", disk(t, n), api.ErrBad)
			d, _ := block.New(n)
			notOpened(t, "an empty disk", d, api.ErrBad)
		}
	}
}

func TestOpenWithoutPower(t *testing.T) {
	for _, d := range []*block.Disk{disk(t, 1), disk(t, 10), formatted(t, 10, 3)} {
		d.Limit(0)
		d.Flush()
		notOpened(t, "a disk without power", d, api.ErrCrash)
	}
}

// The head that counts is told by its number of pages, and where they begin.
func TestTheHeadThatCounts(t *testing.T) {
	good0, good1 := head(6, 0, 3, 5), head(5, 0, 2, 4)
	for _, c := range []struct {
		what        string
		blocks      int
		zero, one   string
		room, pages int // 0, 0: none
	}{
		{"the one in block 0", 10, good0, "", 3, 5},
		{"the one in block 1", 10, "", good1, 2, 4},
		{"the greater Seq, in block 0", 10, good0, good1, 3, 5},
		{"the greater Seq, in block 1", 10, good0, head(7, 0, 2, 4), 2, 4},
		{"the greater Seq, in block 1, by far", 10, good0, head(1<<63+1, 0, 2, 4), 2, 4},
		{"the greater Seq, in block 0, by the bit of signs", 10, head(1<<63, 0, 3, 5), head(1<<63-1, 0, 2, 4), 3, 5},
		{"the greatest Seq there is", 10, good0, head(math.MaxUint64, 0, 2, 4), 2, 4},
		{"Seq 0", 10, head(0, 0, 3, 5), "", 3, 5},
		{"Seq 1", 10, head(0, 0, 3, 5), head(1, 0, 2, 4), 2, 4},
		{"Seq and numbers of 0 alone", 10, head(0, 0, 0, 0), "", 0, 0},
		{"an odd Seq in block 0", 10, head(7, 0, 3, 5), "", 0, 0},
		{"an even Seq in block 1", 10, "", head(6, 0, 2, 4), 0, 0},
		{"an odd Seq in block 0, beside one that counts", 10, head(7, 0, 3, 5), good1, 2, 4},
		{"an even Seq in block 1, beside one that counts", 10, good0, head(8, 0, 2, 4), 3, 5},
		{"what stands behind it", 10, good0 + strings.Repeat("\xff", 216), "", 3, 5},
		{"one that is torn", 10, good0[:39], "", 0, 0},
		{"one that is torn, beside one that counts", 10, good0[:39], good1, 2, 4},
		{"one with a bit otherwise", 10, good0, head(7, 0, 2, 4)[:20] + head(5, 0, 2, 4)[20:], 3, 5},
		{"one in block 2", 10, "", "", 0, 0},
		{"Room 0", 10, head(8, 0, 0, 5), "", 0, 0},
		{"Room 0, beside one that counts", 10, head(8, 0, 0, 5), good1, 2, 4},
		{"Room 1", 10, head(8, 0, 1, 5), "", 1, 5},
		{"Pages 0", 10, head(8, 0, 3, 0), "", 0, 0},
		{"Pages 0, beside one that counts", 10, good0, head(7, 0, 3, 0), 3, 5},
		{"Pages 1", 10, head(8, 0, 3, 1), "", 3, 1},
		{"Used above Room", 10, head(8, 4, 3, 5), "", 0, 0},
		{"Used above Room, beside one that counts", 10, head(8, 4, 3, 5), good1, 2, 4},
		{"Used far above Room", 10, head(8, math.MaxUint32, 3, 5), good1, 2, 4},
		{"as many blocks as there are", 10, head(8, 0, 4, 4), good1, 4, 4},
		{"one block more than there are", 10, head(8, 0, 4, 5), good1, 2, 4},
		{"one block more than there are, by Room", 10, head(8, 0, 5, 4), good1, 2, 4},
		{"Room far above the blocks", 10, head(8, 0, math.MaxUint32, 5), good1, 2, 4},
		{"Pages far above the blocks", 10, head(8, 0, 3, math.MaxUint32), good1, 2, 4},
		{"both far above the blocks", 10, head(8, 0, math.MaxUint32, math.MaxUint32), good1, 2, 4},
		{"1024 pages", 1030, head(8, 0, 4, 1024), good1, 4, 1024},
		{"1025 pages", 1031, head(8, 0, 4, 1025), good1, 2, 4},
		{"1025 pages of 2048 blocks", 2048, head(8, 0, 4, 1025), "", 0, 0},
		{"one of a disk of 4", 4, head(8, 0, 1, 1), "", 1, 1},
		{"one of a disk of 4, in block 1", 4, "", head(9, 0, 1, 1), 1, 1},
		{"one of a disk of 3", 3, head(8, 0, 1, 1), head(9, 0, 1, 1), 0, 0},
		{"one of a disk of 2", 2, head(8, 0, 1, 1), head(9, 0, 1, 1), 0, 0},
		{"one of a disk of 1", 1, head(8, 0, 1, 1), "", 0, 0},
	} {
		first := []string{c.zero, c.one, good0}
		d := disk(t, c.blocks, first[:min(len(first), c.blocks)]...)
		if c.pages == 0 {
			notOpened(t, c.what, d, api.ErrBad)
			continue
		}
		before := blocks(t, d)
		d.Limit(0) // what is but opened writes nothing
		s := opened(t, d)
		if s.Len() != c.pages {
			t.Errorf("%s: %d pages, not %d", c.what, s.Len(), c.pages)
		}
		for at := range c.pages {
			holds(t, s, at, strings.TrimRight(before[2+c.room+at], "\x00"))
		}
		dirty(t, s)
		same(t, c.what, d, before)
	}
}

// used is a disk of 14 blocks whose head has that Seq, Room 6 and 6 pages: so many blocks of its journal are in use.
func used(t *testing.T, seq uint64, n int, journal ...string) *block.Disk {
	t.Helper()
	first := []string{"", ""}
	first[seq%2] = head(seq, n, 6, 6)
	return disk(t, 14, append(first, journal...)...)
}

func TestOpenBringsHome(t *testing.T) {
	for _, l := range [][]api.Page{
		{},
		{{At: 0, Data: "x0"}},
		{{At: 5, Data: "x5"}},
		{{At: 1, Data: "x1"}, {At: 4, Data: strings.Repeat("\xff", 256)}, {At: 5, Data: ""}},
		{{At: 4, Data: "x4"}, {At: 0, Data: "x0"}, {At: 2, Data: "x2"}},
		{{At: 3, Data: "first"}, {At: 3, Data: "second"}},
	} {
		for _, seq := range []uint64{4, 5, 1 << 63, 1<<63 - 1} {
			var steps []step
			for _, p := range l {
				steps = append(steps, step{8 + p.At, p.Data})
			}
			steps = append(steps, flush, step{int((seq + 1) % 2), head(seq+1, 0, 6, 6)}, flush)
			journal := packed(l...)
			what := fmt.Sprintf("Open with Seq %d and %d pages", seq, len(l))
			does(t, what, steps, func() (*block.Disk, func() api.Errno) {
				d := used(t, seq, len(journal), journal...)
				return d, func() api.Errno {
					s, e := store.Open(d)
					if (s == nil) != (e != api.OK) {
						t.Errorf("%s: %v, error %d", what, s, e)
					}
					return e
				}
			})
			d := used(t, seq, len(journal), journal...)
			want := after(blocks(t, d), steps, true)
			s := opened(t, d)
			dirty(t, s)
			for at := range 6 {
				holds(t, s, at, want[8+at])
			}
			same(t, what+", and once more", d, want)
			d.Limit(0)
			opened(t, d) // what is home isn't brought home once more
		}
	}
}

func TestOpenOfAJournalThatIsBad(t *testing.T) {
	good := api.Page{At: 1, Data: "x1"}
	two := packed(good, api.Page{At: 2, Data: "x2"})
	for _, c := range []struct {
		what    string
		used    int
		journal []string
	}{
		{"a block less than it takes", 2, two},
		{"a block more than it takes", 4, two},
		{"two pages told of, three blocks less", 1, two},
		{"no pages told of, two blocks", 2, packed()},
		{"1025 pages told of", 3, []string{four(1025)}},
		{"very many pages told of", 3, []string{four(-1)}},
		{"a page above 2047", 3, packed(good, api.Page{At: 2048, Data: "x"})},
		{"a page that isn't below Pages", 3, packed(good, api.Page{At: 6, Data: "x"})},
		{"a page that isn't below Pages, ahead of another", 3, packed(api.Page{At: 6, Data: "x"}, good)},
		{"a page far above Pages", 3, packed(good, api.Page{At: 2047, Data: "x"})},
		{"no list", 3, nil},
	} {
		for _, seq := range []uint64{4, 5} {
			d := used(t, seq, c.used, c.journal...)
			first := blocks(t, d)
			d.Limit(0) // nothing is written, not even what could be
			notOpened(t, c.what, d, api.ErrBad)
			same(t, c.what, d, first)
		}
	}
}

// P4.3

func TestPages(t *testing.T) {
	d := formatted(t, 10, 3)
	first := blocks(t, d)
	d.Limit(0) // what is in the transaction isn't on the disk
	s := opened(t, d)
	for at := range 5 {
		holds(t, s, at, fmt.Sprintf("%d was here, ahead of all", 5+at))
	}
	for size := range api.Size + 1 {
		write(t, s, 3, strings.Repeat("\xff", api.Size))
		write(t, s, 3, strings.Repeat("y", size))
		holds(t, s, 3, strings.Repeat("y", size))
	}
	write(t, s, 0, "ab\x00c\xff\u00e9")
	write(t, s, 4, "")
	for at, data := range []string{"ab\x00c\xff\u00e9", "6 was here, ahead of all", "7 was here, ahead of all", strings.Repeat("y", 256), ""} {
		holds(t, s, at, data)
	}
	dirty(t, s, 0, 3, 4)
	same(t, "a transaction under way", d, first)
}

func TestPagesThereAreNot(t *testing.T) {
	for _, n := range []int{4, 10, 2048} {
		s := opened(t, formatted(t, n, 1))
		for _, at := range []int{math.MinInt, -256, -3, -1, s.Len(), s.Len() + 1, 1024, 2047, 2048, math.MaxInt} {
			noRead(t, s, at, api.ErrBlock)
			is(t, fmt.Sprint("Write at ", at), s.Write(at, "x"), api.ErrBlock)
			is(t, fmt.Sprint("Write of too much at ", at), s.Write(at, strings.Repeat("x", 257)), api.ErrBlock)
		}
		dirty(t, s)
		write(t, s, s.Len()-1, "x")
		holds(t, s, s.Len()-1, "x")
	}
}

func TestWriteOfTooMuch(t *testing.T) {
	s := opened(t, formatted(t, 10, 3))
	write(t, s, 1, "x1")
	for _, size := range []int{257, 258, 512, 65536} {
		is(t, fmt.Sprint("Write of ", size), s.Write(1, strings.Repeat("z", size)), api.ErrBig)
		is(t, fmt.Sprint("Write of ", size), s.Write(2, strings.Repeat("z", size)), api.ErrBig)
	}
	dirty(t, s, 1)
	holds(t, s, 1, "x1")
	holds(t, s, 2, "7 was here, ahead of all")
	commit(t, s)
	holds(t, s, 1, "x1")
}

func TestBack(t *testing.T) {
	d := formatted(t, 10, 3)
	s := opened(t, d)
	s.Back()
	write(t, s, 1, "x1")
	commit(t, s)
	first := blocks(t, d)
	write(t, s, 1, "y1")
	write(t, s, 2, "y2")
	s.Back()
	dirty(t, s)
	holds(t, s, 1, "x1")
	holds(t, s, 2, "7 was here, ahead of all")
	commit(t, s)
	same(t, "what was given up, committed", d, first)
	write(t, s, 3, "x3")
	dirty(t, s, 3)
	commit(t, s)
	for at, data := range []string{"5 was here, ahead of all", "x1", "7 was here, ahead of all", "x3"} {
		holds(t, s, at, data)
	}
}

func TestDirty(t *testing.T) {
	s := opened(t, formatted(t, 400, 130))
	dirty(t, s)
	var want []int
	for i := range 60 {
		at := i * 97 % s.Len()
		write(t, s, at, "x")
		write(t, s, at, fmt.Sprintf("%d was here, ahead of all", 132+at)) // as it was: it was written all the same
		want = append(want, at)
		slices.Sort(want)
		dirty(t, s, want...)
	}
	l := s.Dirty()
	clear(l)
	_ = append(l[:0], 1, 2, 3)
	dirty(t, s, want...)
	commit(t, s)
	dirty(t, s)
	write(t, s, 7, "x")
	dirty(t, s, 7)
}

// wrecked tells whether a store is done with: all that it answers is ErrCrash, but what no error can be told by.
func wrecked(t *testing.T, s *store.Store, pages int) {
	t.Helper()
	refused(t, s, api.ErrCrash)
	if s.Len() != pages {
		t.Errorf("Len of a store that had an error of the disk = %d, not %d", s.Len(), pages)
	}
}

func TestReadThatHasAnErrorOfTheDisk(t *testing.T) {
	d := formatted(t, 10, 3)
	s := opened(t, d)
	write(t, s, 1, "x1")
	d.Limit(0)
	is(t, "the disk's Flush", d.Flush(), api.ErrCrash)
	holds(t, s, 1, "x1") // the disk isn't asked for it
	write(t, s, 2, "x2")
	noRead(t, s, 5, api.ErrBlock)
	is(t, "Write of too much", s.Write(0, strings.Repeat("x", 257)), api.ErrBig)
	holds(t, s, 2, "x2")
	noRead(t, s, 3, api.ErrCrash)
	wrecked(t, s, 5)
	dirty(t, s, 1, 2)
	d.Crash(all, -1, 0)
	wrecked(t, s, 5)
	dirty(t, s, 1, 2)
	s.Back()
	dirty(t, s)
	wrecked(t, s, 5)
	s = opened(t, d)
	for at := range 5 {
		holds(t, s, at, fmt.Sprintf("%d was here, ahead of all", 5+at))
	}
}

func TestCommitThatHasAnErrorOfTheDisk(t *testing.T) {
	for limit := range 11 {
		d := formatted(t, 10, 3)
		s := opened(t, d)
		write(t, s, 1, "x1")
		write(t, s, 2, "x2")
		d.Limit(limit)
		is(t, fmt.Sprint("Commit at the limit ", limit), s.Commit(), api.ErrCrash)
		dirty(t, s)
		wrecked(t, s, 5)
		d.Crash(all, -1, 0)
		wrecked(t, s, 5)
		dirty(t, s)
	}
}

func TestErrorsThatAreNotTheDisks(t *testing.T) {
	s := opened(t, formatted(t, 10, 3))
	noRead(t, s, 5, api.ErrBlock)
	is(t, "Write of no page", s.Write(5, "x"), api.ErrBlock)
	is(t, "Write of too much", s.Write(0, strings.Repeat("x", 257)), api.ErrBig)
	for at := range 3 {
		write(t, s, at, "x")
	}
	is(t, "Commit of three", s.Commit(), api.ErrFull)
	write(t, s, 0, "a")
	commit(t, s)
	holds(t, s, 0, "a")
}

// P4.4

func TestCommit(t *testing.T) {
	l := []api.Page{{At: 0, Data: "x0"}, {At: 2, Data: strings.Repeat("\xff", 256)}, {At: 3, Data: ""}, {At: 5, Data: "x5"}}
	journal := packed(l...)
	for _, seq := range []uint64{2, 7, 1<<63 - 1} {
		var steps []step
		for i, data := range journal {
			steps = append(steps, step{2 + i, data})
		}
		steps = append(steps, flush, step{int((seq + 1) % 2), head(seq+1, 5, 6, 6)}, flush)
		for _, p := range l {
			steps = append(steps, step{8 + p.At, p.Data})
		}
		steps = append(steps, flush, step{int(seq % 2), head(seq+2, 0, 6, 6)}, flush)
		for _, order := range [][]int{{0, 1, 2, 3}, {3, 2, 1, 0}, {2, 0, 3, 1}} {
			does(t, fmt.Sprintf("Commit behind Seq %d", seq), steps, func() (*block.Disk, func() api.Errno) {
				d := used(t, seq, 0)
				s := opened(t, d)
				write(t, s, 1, "given up")
				s.Back()
				for _, i := range order {
					write(t, s, l[i].At, "an older one")
					write(t, s, l[i].At, l[i].Data)
				}
				return d, s.Commit
			})
		}
	}
}

func TestCommitsOneBehindTheOther(t *testing.T) {
	d := used(t, 2, 0)
	want := blocks(t, d)
	s := opened(t, d)
	for i := range uint64(10) {
		p := api.Page{At: int(i*5) % 6, Data: fmt.Sprint("x", i)}
		write(t, s, p.At, p.Data)
		commit(t, s)
		copy(want[2:], packed(p))
		want[8+p.At] = full(p.Data)
		want[1] = full(head(2*i+3, 2, 6, 6))
		want[0] = full(head(2*i+4, 0, 6, 6))
		same(t, fmt.Sprint("Commit of the number ", i), d, want)
		holds(t, s, p.At, p.Data)
		if i%3 == 2 {
			s = opened(t, d)
		}
	}
}

func TestCommitWithoutATransaction(t *testing.T) {
	d := formatted(t, 10, 3)
	first := blocks(t, d)
	s := opened(t, d)
	d.Limit(0)
	commit(t, s)
	write(t, s, 0, "x")
	s.Back()
	commit(t, s)
	same(t, "Commit of nothing", d, first)
	is(t, "the disk's Flush", d.Flush(), api.ErrCrash)
	commit(t, s) // the disk isn't asked for anything
}

func TestCommitOfMoreThanTheJournalTakes(t *testing.T) {
	for _, c := range []struct {
		room, pages int
		done        bool
	}{
		{1, 1, false},
		{2, 1, true},
		{2, 2, false},
		{3, 2, true},
		{3, 3, false},
		{63, 62, true},
		{63, 63, false},
		{64, 63, true},
		{64, 64, false},
		{65, 64, false},
		{66, 64, true},
		{66, 65, false},
		{66, 300, false},
		{500, 300, true},
	} {
		d := formatted(t, 2+c.room+300, c.room)
		first := blocks(t, d)
		s := opened(t, d)
		for at := range c.pages {
			write(t, s, at, fmt.Sprint("x", at))
		}
		what := fmt.Sprintf("Commit of %d pages with room %d", c.pages, c.room)
		if c.done {
			is(t, what, s.Commit(), api.OK)
		} else {
			d.Limit(0)
			is(t, what, s.Commit(), api.ErrFull)
			same(t, what, d, first)
			d.Limit(-1)
		}
		dirty(t, s)
		for _, s := range []*store.Store{s, opened(t, d)} {
			for at := range 300 {
				want := fmt.Sprintf("%d was here, ahead of all", 2+c.room+at)
				if c.done && at < c.pages {
					want = fmt.Sprint("x", at)
				}
				holds(t, s, at, want)
			}
		}
	}
}

func TestStoresShareNothing(t *testing.T) {
	a, b := opened(t, formatted(t, 10, 3)), opened(t, formatted(t, 10, 3))
	write(t, a, 0, "a0")
	write(t, b, 1, "b1")
	dirty(t, a, 0)
	dirty(t, b, 1)
	commit(t, a)
	dirty(t, b, 1)
	holds(t, b, 0, "5 was here, ahead of all")
	holds(t, a, 1, "6 was here, ahead of all")
}

// Calls by chance are held against what the chapter says that pages and a transaction are.
func TestCallsByChance(t *testing.T) {
	r := rand.New(rand.NewSource(4))
	for range 60 {
		room := 1 + r.Intn(7)
		n := 2 + room + 1 + r.Intn(8)
		d := formatted(t, n, room)
		s := opened(t, d)
		safe := blocks(t, d)[2+room:]
		now := slices.Clone(safe)
		pages := map[int]bool{}
		for range 150 {
			at := r.Intn(len(safe))
			switch r.Intn(8) {
			case 0, 1, 2, 3:
				now[at] = full(fmt.Sprint(r.Intn(1000)))
				write(t, s, at, strings.TrimRight(now[at], "\x00"))
				pages[at] = true
			case 4, 5:
				want := api.OK
				if len(pages) > 0 && len(pages)+1 > room {
					want = api.ErrFull
					now = slices.Clone(safe)
				}
				is(t, "Commit", s.Commit(), want)
				safe = slices.Clone(now)
				clear(pages)
			case 6:
				s.Back()
				now = slices.Clone(safe)
				clear(pages)
			case 7:
				s = opened(t, d)
				now = slices.Clone(safe)
				clear(pages)
			}
			holds(t, s, at, now[at])
			if got := len(s.Dirty()); got != len(pages) {
				t.Fatalf("Dirty has %d pages, not %d", got, len(pages))
			}
		}
		for at, data := range now {
			holds(t, s, at, data)
		}
	}
}

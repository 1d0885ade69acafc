package pager_test

import (
	"encoding/binary"
	"fmt"
	"math"
	"slices"
	"strings"
	"testing"

	"annalist/api"
	"annalist/block"
	"annalist/pager"
	"annalist/store"
)

// journal is the blocks of the journals of all stores here: a transaction has room for one page fewer, as long as these are at most 63.
const journal = 9

// none are numbers of no page that is ever given out, of a store of so many pages.
func none(pages int) []int {
	l := []int{0, 1, -1, -2, -8, pages, pages + 1, 1024, 2047, 2048, 1 << 32, 1<<32 + 2, math.MinInt, math.MinInt + 2, math.MaxInt}
	if pages < api.MaxPages {
		l = append(l, api.MaxPages-1)
	}
	return l
}

// full is data, filled up with bytes 0.
func full(data string) string {
	return data + strings.Repeat("\x00", api.Size-len(data))
}

// set is page 0 with these numbers in it.
func set(l ...int) string {
	var b [api.Size]byte
	for _, i := range l {
		b[i/8] |= 1 << (i % 8)
	}
	return string(b[:])
}

// rooted is page 1 with these roots.
func rooted(l ...int) string {
	var b []byte
	for _, at := range l {
		b = binary.LittleEndian.AppendUint32(b, uint32(at))
	}
	return full(string(b))
}

// from are the numbers from a first one on, below a bound.
func from(first, below int) []int {
	var l []int
	for i := first; i < below; i++ {
		l = append(l, i)
	}
	return l
}

// is tells whether a call's error is that.
func is(t *testing.T, call string, got, want api.Errno) {
	t.Helper()
	if got != want {
		t.Errorf("%s: error %d, not %d", call, got, want)
	}
}

// disk is a disk with a store of so many pages, and what these have, if anything.
func disk(t *testing.T, pages int, data ...string) *block.Disk {
	t.Helper()
	d, e := block.New(2 + journal + pages)
	if e != api.OK {
		t.Fatalf("a disk of %d pages: error %d", pages, e)
	}
	is(t, "store.Format", store.Format(d, journal), api.OK)
	s := opened(t, d)
	for at, p := range data {
		is(t, fmt.Sprint("the store's Write of ", at), s.Write(at, p), api.OK)
		is(t, "the store's Commit", s.Commit(), api.OK)
	}
	return d
}

// opened is a disk's store.
func opened(t *testing.T, d *block.Disk) *store.Store {
	t.Helper()
	s, e := store.Open(d)
	if e != api.OK || s == nil {
		t.Fatalf("store.Open: error %d", e)
	}
	return s
}

// made is a store's pager.
func made(t *testing.T, s *store.Store) *pager.Pager {
	t.Helper()
	p, e := pager.New(s)
	if e != api.OK || p == nil {
		t.Fatalf("New: %v, error %d", p, e)
	}
	return p
}

// ready is a pager of a store of so many pages that is made ready, and committed.
func ready(t *testing.T, pages int) (*pager.Pager, *store.Store, *block.Disk) {
	t.Helper()
	d := disk(t, pages)
	s := opened(t, d)
	p := made(t, s)
	is(t, "Format", p.Format(), api.OK)
	is(t, "Commit", p.Commit(), api.OK)
	return p, s, d
}

// alloc has a page given out, which is to be that.
func alloc(t *testing.T, p *pager.Pager, want int) {
	t.Helper()
	if at, e := p.Alloc(); at != want || e != api.OK {
		t.Fatalf("Alloc = %d, error %d, not page %d", at, e, want)
	}
}

// noAlloc has no page given out, for that error.
func noAlloc(t *testing.T, p *pager.Pager, want api.Errno) {
	t.Helper()
	if at, e := p.Alloc(); at != 0 || e != want {
		t.Errorf("Alloc = %d, error %d, not the error %d alone", at, e, want)
	}
}

// free takes a page back.
func free(t *testing.T, p *pager.Pager, at int) {
	t.Helper()
	is(t, fmt.Sprintf("Free(%d)", at), p.Free(at), api.OK)
}

// put sets a page.
func put(t *testing.T, p *pager.Pager, at int, data string) {
	t.Helper()
	is(t, fmt.Sprintf("Set(%d, %.10q)", at, data), p.Set(at, data), api.OK)
}

// root gives a tree a root.
func root(t *testing.T, p *pager.Pager, i, at int) {
	t.Helper()
	is(t, fmt.Sprintf("SetRoot(%d, %d)", i, at), p.SetRoot(i, at), api.OK)
}

// commit ends a transaction.
func commit(t *testing.T, p *pager.Pager) {
	t.Helper()
	is(t, "Commit", p.Commit(), api.OK)
}

// has tells whether a page is that, filled up.
func has(t *testing.T, p *pager.Pager, at int, want string) {
	t.Helper()
	if got, e := p.Get(at); got != full(want) || e != api.OK {
		t.Errorf("Get(%d) = %.24q, error %d, not %.24q", at, got, e, want)
	}
}

// hasNot tells whether a page can't be got, for that error.
func hasNot(t *testing.T, p *pager.Pager, at int, want api.Errno) {
	t.Helper()
	if got, e := p.Get(at); got != "" || e != want {
		t.Errorf("Get(%d) = %.24q, error %d, not the error %d alone", at, got, e, want)
	}
}

// rootIs tells whether a tree's root is that.
func rootIs(t *testing.T, p *pager.Pager, i, want int) {
	t.Helper()
	if at, e := p.Root(i); at != want || e != api.OK {
		t.Errorf("Root(%d) = %d, error %d, not %d", i, at, e, want)
	}
}

// noRoot tells whether a root can't be told, for that error.
func noRoot(t *testing.T, p *pager.Pager, i int, want api.Errno) {
	t.Helper()
	if at, e := p.Root(i); at != 0 || e != want {
		t.Errorf("Root(%d) = %d, error %d, not the error %d alone", i, at, e, want)
	}
}

// room tells whether so many pages aren't given out.
func room(t *testing.T, p *pager.Pager, want int) {
	t.Helper()
	if n := p.Room(); n != want {
		t.Errorf("Room = %d, not %d", n, want)
	}
}

// holds tells whether the store has that page.
func holds(t *testing.T, s *store.Store, at int, want string) {
	t.Helper()
	if got, e := s.Read(at); got != want || e != api.OK {
		t.Errorf("the store's page %d is %.24q, error %d, not %.24q", at, got, e, want)
	}
}

// dirty tells whether these pages alone are in the store's transaction.
func dirty(t *testing.T, s *store.Store, want ...int) {
	t.Helper()
	if got := s.Dirty(); !slices.Equal(got, want) {
		t.Errorf("the transaction has the pages %v, not %v", got, want)
	}
}

// dark takes the power off a disk.
func dark(t *testing.T, d *block.Disk) {
	t.Helper()
	d.Limit(0)
	is(t, "Flush without power", d.Flush(), api.ErrCrash)
}

// ends tells whether that error ends all calls that need the store.
func ends(t *testing.T, p *pager.Pager, want api.Errno) {
	t.Helper()
	for range 2 {
		noAlloc(t, p, want)
		is(t, "Free", p.Free(2), want)
		hasNot(t, p, 2, want)
		is(t, "Set", p.Set(2, "a"), want)
		noRoot(t, p, 0, want)
		is(t, "SetRoot", p.SetRoot(0, 2), want)
		is(t, "SetRoot of none", p.SetRoot(0, 0), want)
		room(t, p, 0)
		is(t, "Format", p.Format(), want)
		is(t, "Commit", p.Commit(), want)
		p.Back()
	}
}

// What is nil, and what no call made

func TestNothing(t *testing.T) {
	var no *pager.Pager
	for _, p := range []*pager.Pager{no, {}, new(pager.Pager)} {
		ends(t, p, api.ErrNil)
		for _, i := range []int{-1, 16, math.MinInt, math.MaxInt} {
			noRoot(t, p, i, api.ErrNil)
			is(t, "SetRoot", p.SetRoot(i, i), api.ErrNil)
			hasNot(t, p, i, api.ErrNil)
			is(t, "Free", p.Free(i), api.ErrNil)
			is(t, "Set", p.Set(i, full("")+"a"), api.ErrNil)
		}
	}
}

// P7.1

func TestNewOfNothing(t *testing.T) {
	var no *store.Store
	for _, s := range []*store.Store{no, {}} {
		if p, e := pager.New(s); p != nil || e != api.ErrNil {
			t.Errorf("New of nothing: %v, error %d", p, e)
		}
	}
}

func TestNewWithoutPower(t *testing.T) {
	d := disk(t, 5)
	s := opened(t, d)
	dark(t, d)
	for range 2 {
		if p, e := pager.New(s); p != nil || e != api.ErrCrash {
			t.Errorf("New without power: %v, error %d", p, e)
		}
		// The store stays as it is, even when the power is back.
		d.Crash(0, 0, 0)
	}
	made(t, opened(t, d))
}

func TestNewWritesNothing(t *testing.T) {
	for _, pages := range []int{1, 2, 3, 1024} {
		s := opened(t, disk(t, pages, "here"))
		made(t, s)
		dirty(t, s)
		holds(t, s, 0, full("here"))
	}
}

func TestFormatOfTooFewPages(t *testing.T) {
	for pages := 1; pages <= 2; pages++ {
		d := disk(t, pages, "here")
		s := opened(t, d)
		p := made(t, s)
		is(t, fmt.Sprint("Format of pages: ", pages), p.Format(), api.ErrArg)
		dirty(t, s)
		holds(t, s, 0, full("here"))
		// What is wrong with it is told first.
		dark(t, d)
		is(t, fmt.Sprint("Format without power of pages: ", pages), p.Format(), api.ErrArg)
	}
}

func TestFormat(t *testing.T) {
	for _, pages := range []int{3, 4, 5, 8, 9, 64, 1023, 1024} {
		junk := strings.Repeat("\xff", api.Size)
		d := disk(t, pages, junk, junk, "stays")
		s := opened(t, d)
		p := made(t, s)
		is(t, "Format", p.Format(), api.OK)
		dirty(t, s, 0, 1)
		holds(t, s, 0, set(0, 1))
		holds(t, s, 1, full(""))
		holds(t, s, 2, full("stays"))
		room(t, p, pages-2)
		for i := range 16 {
			rootIs(t, p, i, 0)
		}
		for _, at := range append(none(pages), 2) {
			hasNot(t, p, at, api.ErrNone)
		}
		holds(t, opened(t, d), 0, junk)
		commit(t, p)
		holds(t, opened(t, d), 0, set(0, 1))
	}
}

func TestFormatOfWhatWasUsed(t *testing.T) {
	p, s, _ := ready(t, 6)
	for at := 2; at < 6; at++ {
		alloc(t, p, at)
		put(t, p, at, "old")
		root(t, p, at, at)
	}
	commit(t, p)
	has(t, p, 3, "old")
	rootIs(t, p, 3, 3)
	is(t, "Format", p.Format(), api.OK)
	hasNot(t, p, 3, api.ErrNone)
	rootIs(t, p, 3, 0)
	room(t, p, 4)
	alloc(t, p, 2)
	has(t, p, 2, "")
	dirty(t, s, 0, 1, 2)
	p.Back()
	room(t, p, 0)
	has(t, p, 2, "old")
	rootIs(t, p, 3, 3)
}

// P7.2

func TestExample(t *testing.T) {
	p, _, _ := ready(t, 5)
	room(t, p, 3)
	alloc(t, p, 2)
	alloc(t, p, 3)
	free(t, p, 2)
	alloc(t, p, 2)
}

func TestAllocOfAllPages(t *testing.T) {
	for _, pages := range []int{3, 7, 8, 9, 10, 16, 17, 1023, 1024} {
		p, s, _ := ready(t, pages)
		for at := 2; at < pages; at++ {
			room(t, p, pages-at)
			alloc(t, p, at)
			holds(t, s, 0, set(from(0, at+1)...))
		}
		room(t, p, 0)
		before := s.Dirty()
		noAlloc(t, p, api.ErrSpace)
		dirty(t, s, before...)
		free(t, p, pages-1)
		room(t, p, 1)
		alloc(t, p, pages-1)
		noAlloc(t, p, api.ErrSpace)
	}
}

func TestAllocOfTooFewPages(t *testing.T) {
	for pages := 1; pages <= 2; pages++ {
		p := made(t, opened(t, disk(t, pages)))
		noAlloc(t, p, api.ErrSpace)
		room(t, p, pages)
		for _, at := range none(pages) {
			is(t, "Free", p.Free(at), api.ErrNone)
		}
	}
}

func TestAllocIsEmpty(t *testing.T) {
	junk := strings.Repeat("j", api.Size)
	s := opened(t, disk(t, 4, junk, junk, junk, junk))
	p := made(t, s)
	is(t, "Format", p.Format(), api.OK)
	commit(t, p)
	alloc(t, p, 2)
	dirty(t, s, 0, 2)
	has(t, p, 2, "")
	holds(t, s, 2, full(""))
	holds(t, s, 3, junk)
	put(t, p, 2, "mine")
	has(t, p, 2, "mine")
	free(t, p, 2)
	alloc(t, p, 2)
	has(t, p, 2, "")
}

func TestAllocIsTheLeast(t *testing.T) {
	p, _, _ := ready(t, 40)
	for at := 2; at < 40; at++ {
		alloc(t, p, at)
	}
	for _, at := range []int{39, 8, 2, 31, 9, 7} {
		free(t, p, at)
	}
	for _, at := range []int{2, 7, 8, 9, 31, 39} {
		alloc(t, p, at)
	}
	noAlloc(t, p, api.ErrSpace)
}

func TestFree(t *testing.T) {
	p, s, _ := ready(t, 12)
	for at := 2; at < 11; at++ {
		alloc(t, p, at)
		commit(t, p)
	}
	put(t, p, 5, "five")
	commit(t, p)
	free(t, p, 5)
	dirty(t, s, 0)
	holds(t, s, 0, set(0, 1, 2, 3, 4, 6, 7, 8, 9, 10))
	room(t, p, 2)
	hasNot(t, p, 5, api.ErrNone)
	commit(t, p)
	for _, at := range append(none(12), 5, 11) {
		is(t, fmt.Sprintf("Free(%d)", at), p.Free(at), api.ErrNone)
	}
	dirty(t, s)
	room(t, p, 2)
}

func TestSetsThatOthersWrote(t *testing.T) {
	for _, c := range []struct {
		name        string
		pages       int
		set         string
		room, alloc int
	}{
		{"of nothing", 5, set(), 5, 2},
		{"of 0 alone", 5, set(0), 4, 2},
		{"of 1 alone", 5, set(1), 4, 2},
		{"without 0 and 1", 5, set(2, 4), 3, 3},
		{"of numbers of no page", 5, set(0, 1, 2, 5, 6, 7, 8, 1023, 1024, 2047), 2, 3},
		{"of all numbers but one", 1024, set(append(from(0, 1022), from(1023, 2048)...)...), 1, 1022},
	} {
		s := opened(t, disk(t, c.pages, c.set))
		p := made(t, s)
		room(t, p, c.room)
		for _, at := range none(c.pages) {
			hasNot(t, p, at, api.ErrNone)
			is(t, "Free", p.Free(at), api.ErrNone)
			is(t, "Set", p.Set(at, "a"), api.ErrNone)
		}
		dirty(t, s)
		alloc(t, p, c.alloc)
		room(t, p, c.room-1)
	}
}

func TestAllOfASetThatOthersWrote(t *testing.T) {
	for _, pages := range []int{3, 5, 1024} {
		p := made(t, opened(t, disk(t, pages, strings.Repeat("\xff", api.Size))))
		room(t, p, 0)
		noAlloc(t, p, api.ErrSpace)
		is(t, "Free", p.Free(pages), api.ErrNone)
		free(t, p, pages-1)
		room(t, p, 1)
		alloc(t, p, pages-1)
		noAlloc(t, p, api.ErrSpace)
	}
}

// P7.3

func TestSetAndGet(t *testing.T) {
	p, s, _ := ready(t, 5)
	alloc(t, p, 2)
	alloc(t, p, 3)
	commit(t, p)
	for _, data := range []string{"a", "bc", "", "d\x00e", "\xff\x00", strings.Repeat("x", 255), strings.Repeat("y", 256), "z"} {
		put(t, p, 2, data)
		dirty(t, s, 2)
		has(t, p, 2, data)
		has(t, p, 2, data)
		holds(t, s, 2, full(data))
		has(t, p, 3, "")
	}
}

func TestSetOfTooMuch(t *testing.T) {
	p, s, _ := ready(t, 5)
	alloc(t, p, 2)
	put(t, p, 2, "a")
	commit(t, p)
	for _, n := range []int{257, 258, 512, 1 << 20} {
		is(t, fmt.Sprint("Set of bytes: ", n), p.Set(2, strings.Repeat("x", n)), api.ErrBig)
		is(t, "Set of what isn't given out", p.Set(3, strings.Repeat("x", n)), api.ErrNone)
	}
	dirty(t, s)
	has(t, p, 2, "a")
	room(t, p, 2)
}

func TestWhatIsNotGivenOut(t *testing.T) {
	p, s, _ := ready(t, 6)
	for at := 2; at < 6; at++ {
		alloc(t, p, at)
	}
	free(t, p, 3)
	commit(t, p)
	for _, at := range append(none(6), 3) {
		hasNot(t, p, at, api.ErrNone)
		is(t, fmt.Sprintf("Set(%d)", at), p.Set(at, "a"), api.ErrNone)
	}
	dirty(t, s)
	free(t, p, 4)
	hasNot(t, p, 4, api.ErrNone)
	is(t, "Set", p.Set(4, "a"), api.ErrNone)
	dirty(t, s, 0)
}

// More pages than a pager could have at hand are got, and set, in several orders.
func TestManyPages(t *testing.T) {
	const pages = 300
	p, _, d := ready(t, pages)
	for at := 2; at < pages; at++ {
		alloc(t, p, at)
		put(t, p, at, fmt.Sprint("first ", at))
		commit(t, p)
	}
	for at := pages - 1; at >= 2; at-- {
		has(t, p, at, fmt.Sprint("first ", at))
		put(t, p, at, fmt.Sprint("then ", at))
		commit(t, p)
	}
	for i := range 4 * pages {
		at := 2 + i*i*7%(pages-2)
		has(t, p, at, fmt.Sprint("then ", at))
	}
	p = made(t, opened(t, d))
	for at := 2; at < pages; at++ {
		has(t, p, at, fmt.Sprint("then ", at))
	}
}

// P7.4

func TestRoots(t *testing.T) {
	if pager.Roots != 16 {
		t.Errorf("Roots = %d", pager.Roots)
	}
	p, s, _ := ready(t, 1024)
	for at := 2; at < 1024; at++ {
		alloc(t, p, at)
		if at%5 == 0 {
			commit(t, p)
		}
	}
	commit(t, p)
	var want [16]int
	for i := range 16 {
		want[i] = 1023 - 61*i
		root(t, p, i, want[i])
		dirty(t, s, 1)
		holds(t, s, 1, rooted(want[:]...))
	}
	for i := range 16 {
		rootIs(t, p, i, want[i])
	}
	for _, i := range []int{7, 0, 15} {
		want[i] = 0
		root(t, p, i, 0)
		holds(t, s, 1, rooted(want[:]...))
		rootIs(t, p, i, 0)
	}
	// Two trees may well have one root.
	root(t, p, 3, want[4])
	rootIs(t, p, 3, want[4])
	rootIs(t, p, 4, want[4])
}

func TestRootsOfNoTree(t *testing.T) {
	p, s, _ := ready(t, 5)
	alloc(t, p, 2)
	root(t, p, 0, 2)
	root(t, p, 15, 2)
	commit(t, p)
	for _, i := range []int{-1, 16, 17, 63, 64, -16, 1 << 32, 1<<62 + 1, math.MinInt, math.MaxInt} {
		noRoot(t, p, i, api.ErrArg)
		for _, at := range []int{0, 1, 2, 3, -1, 5, math.MaxInt} {
			is(t, fmt.Sprintf("SetRoot(%d, %d)", i, at), p.SetRoot(i, at), api.ErrArg)
		}
	}
	dirty(t, s)
}

func TestRootsThatAreNotGivenOut(t *testing.T) {
	p, s, _ := ready(t, 6)
	alloc(t, p, 2)
	alloc(t, p, 3)
	root(t, p, 4, 2)
	free(t, p, 3)
	commit(t, p)
	for _, at := range append(none(6), 3, 4, 5) {
		if at == 0 {
			continue
		}
		is(t, fmt.Sprintf("SetRoot(4, %d)", at), p.SetRoot(4, at), api.ErrNone)
	}
	dirty(t, s)
	rootIs(t, p, 4, 2)
	// A root stays till it is set, even if its page is taken back.
	free(t, p, 2)
	rootIs(t, p, 4, 2)
	is(t, "SetRoot(4, 2)", p.SetRoot(4, 2), api.ErrNone)
	root(t, p, 4, 0)
	rootIs(t, p, 4, 0)
}

func TestRootsThatOthersWrote(t *testing.T) {
	const top = math.MaxUint32
	behind := strings.Repeat("b", api.Size-64)
	page := rooted(top, 1, 256, 65536, 1<<24, 1<<31)[:64] + behind
	s := opened(t, disk(t, 5, set(0, 1, 2), page))
	p := made(t, s)
	for i, at := range []int{top, 1, 256, 65536, 1 << 24, 1 << 31, 0} {
		rootIs(t, p, i, at)
	}
	root(t, p, 1, 2)
	holds(t, s, 1, rooted(top, 2, 256, 65536, 1<<24, 1<<31)[:64]+behind)
}

func TestRootsWithoutTheirPage(t *testing.T) {
	s := opened(t, disk(t, 1))
	p := made(t, s)
	noRoot(t, p, 0, api.ErrBlock)
	noRoot(t, p, 16, api.ErrArg)
	is(t, "SetRoot(0, 0)", p.SetRoot(0, 0), api.ErrBlock)
	is(t, "SetRoot(0, 1)", p.SetRoot(0, 1), api.ErrNone)
	dirty(t, s)
}

// P7.5

func TestCommit(t *testing.T) {
	p, s, d := ready(t, 6)
	alloc(t, p, 2)
	put(t, p, 2, "two")
	root(t, p, 9, 2)
	dirty(t, s, 0, 1, 2)
	holds(t, opened(t, d), 0, set(0, 1))
	commit(t, p)
	dirty(t, s)
	for _, q := range []*pager.Pager{p, made(t, opened(t, d))} {
		has(t, q, 2, "two")
		rootIs(t, q, 9, 2)
		room(t, q, 3)
		commit(t, q)
		q.Back()
		has(t, q, 2, "two")
	}
}

func TestBack(t *testing.T) {
	p, s, d := ready(t, 6)
	alloc(t, p, 2)
	alloc(t, p, 3)
	put(t, p, 2, "two")
	root(t, p, 1, 2)
	commit(t, p)
	for range 3 {
		// Asked on the way, too, so that all that is given up was at hand.
		alloc(t, p, 4)
		put(t, p, 4, "four")
		has(t, p, 4, "four")
		put(t, p, 2, "new")
		has(t, p, 2, "new")
		free(t, p, 3)
		hasNot(t, p, 3, api.ErrNone)
		root(t, p, 1, 4)
		rootIs(t, p, 1, 4)
		room(t, p, 2)
		p.Back()
		dirty(t, s)
		for _, q := range []*pager.Pager{p, made(t, opened(t, d))} {
			room(t, q, 2)
			has(t, q, 2, "two")
			has(t, q, 3, "")
			hasNot(t, q, 4, api.ErrNone)
			rootIs(t, q, 1, 2)
		}
	}
}

func TestCommitOfTooMany(t *testing.T) {
	p, s, d := ready(t, 20)
	alloc(t, p, 2)
	put(t, p, 2, "two")
	root(t, p, 1, 2)
	commit(t, p)
	for at := 3; at <= 9; at++ {
		alloc(t, p, at)
	}
	put(t, p, 2, "new")
	has(t, p, 2, "new")
	root(t, p, 1, 9)
	rootIs(t, p, 1, 9)
	room(t, p, 10)
	dirty(t, s, from(0, 10)...)
	is(t, "Commit of ten pages", p.Commit(), api.ErrFull)
	dirty(t, s)
	for _, q := range []*pager.Pager{p, made(t, opened(t, d))} {
		has(t, q, 2, "two")
		hasNot(t, q, 3, api.ErrNone)
		rootIs(t, q, 1, 2)
		room(t, q, 17)
	}
	// There is nothing left of it: what comes then is done.
	alloc(t, p, 3)
	commit(t, p)
	room(t, made(t, opened(t, d)), 16)
}

func TestCommitWithoutPower(t *testing.T) {
	p, _, d := ready(t, 6)
	alloc(t, p, 2)
	put(t, p, 2, "two")
	root(t, p, 0, 2)
	commit(t, p)
	has(t, p, 2, "two")
	put(t, p, 2, "new")
	has(t, p, 2, "new")
	d.Limit(0)
	is(t, "Commit without power", p.Commit(), api.ErrCrash)
	ends(t, p, api.ErrCrash)
	noRoot(t, p, 16, api.ErrArg)
	is(t, "SetRoot(16, 0)", p.SetRoot(16, 0), api.ErrArg)
	// The store stays as it is, even when the power is back.
	d.Crash(0, 0, 0)
	ends(t, p, api.ErrCrash)
	has(t, made(t, opened(t, d)), 2, "two")
}

func TestReadWithoutPower(t *testing.T) {
	d := disk(t, 300)
	s := opened(t, d)
	p := made(t, s)
	is(t, "Format", p.Format(), api.OK)
	for at := 2; at < 300; at++ {
		alloc(t, p, at)
		commit(t, p)
	}
	for at := 2; at < 300; at++ {
		has(t, p, at, "")
	}
	has(t, p, 299, "")
	dark(t, d)
	// It was used so long ago that the store is asked for it.
	hasNot(t, p, 2, api.ErrCrash)
	hasNot(t, p, 299, api.ErrCrash)
	ends(t, p, api.ErrCrash)
}

func TestWriteWithoutPower(t *testing.T) {
	p, s, d := ready(t, 6)
	alloc(t, p, 2)
	alloc(t, p, 3)
	commit(t, p)
	has(t, p, 3, "")
	dark(t, d)
	if _, e := s.Read(5); e != api.ErrCrash {
		t.Fatalf("the store's Read without power: error %d", e)
	}
	is(t, "Set", p.Set(2, "a"), api.ErrCrash)
	hasNot(t, p, 3, api.ErrCrash)
	ends(t, p, api.ErrCrash)
}

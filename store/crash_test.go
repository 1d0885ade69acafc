package store_test

import (
	"fmt"
	"math/rand"
	"slices"
	"strings"
	"testing"

	"annalist/api"
	"annalist/block"
	"annalist/store"
)

// crash is what a crash keeps, loses and tears.
type crash struct {
	mask      uint64
	torn, cut int
}

// crashes are those that keep all, nothing, or some of up to so many late writes, and tear each one at a few places: those where a head's numbers begin and end are among them.
func crashes(late int) []crash {
	var l []crash
	for _, mask := range []uint64{0, 1, 2, 3, 4, 5, 6, 7, 8, 0x15, 0x2a, 0x33, all} {
		for torn := range late {
			if mask>>torn&1 == 0 && torn > 0 {
				continue // it is lost, whether torn or not
			}
			for _, cut := range []int{0, 1, 7, 8, 9, 12, 13, 20, 21, 28, 29, 39, 40, 41, 255, 256} {
				l = append(l, crash{mask, torn, cut})
			}
		}
	}
	return l
}

// some are crashes by chance.
func some(r *rand.Rand) crash {
	return crash{r.Uint64(), r.Intn(6), r.Intn(api.Size + 1)}
}

// pages are all pages of a store.
func pages(t *testing.T, s *store.Store) []string {
	t.Helper()
	var l []string
	for at := range s.Len() {
		data, e := s.Read(at)
		if e != api.OK {
			t.Fatalf("Read(%d): error %d", at, e)
		}
		l = append(l, data)
	}
	return l
}

// filled is a disk whose pages were committed one by one: they have that text, and their number.
func filled(t *testing.T, n, room int, text string) *block.Disk {
	t.Helper()
	d := formatted(t, n, room)
	s := opened(t, d)
	for at := range s.Len() {
		write(t, s, at, fmt.Sprint(text, at))
		commit(t, s)
	}
	return d
}

// cutShort commits pages up to the limit, and crashes. It tells what pages may be there then, and whether Commit was done: with all of the transaction; if it wasn't done, with none of it, too.
func cutShort(t *testing.T, d *block.Disk, l []int, limit int, c crash) (may [][]string, done bool) {
	t.Helper()
	s := opened(t, d)
	before := pages(t, s)
	for _, at := range l {
		write(t, s, at, fmt.Sprintf("%s%d", strings.Repeat("new ", 30), at))
	}
	behind := pages(t, s)
	d.Limit(limit)
	e := s.Commit()
	if e != api.OK && e != api.ErrCrash {
		t.Fatalf("Commit at the limit %d: error %d", limit, e)
	}
	d.Crash(c.mask, c.torn, c.cut)
	if e == api.OK {
		return [][]string{behind}, true
	}
	return [][]string{behind, before}, false
}

// whole are the pages of a store that opens, which are to be some that may be.
func whole(t *testing.T, what string, d *block.Disk, may [][]string) []string {
	t.Helper()
	got := pages(t, opened(t, d))
	if !slices.ContainsFunc(may, func(l []string) bool { return slices.Equal(l, got) }) {
		t.Fatalf("%s: the pages are %.9q, none of %d that may be", what, got, len(may))
	}
	return got
}

// P4.5

func TestWhenThePowerGoesInCommit(t *testing.T) {
	const steps = 4 + 1 + 2 + 3 + 1 + 2 // of a Commit of three pages
	with, without := 0, 0
	for limit := range steps + 1 {
		for _, c := range crashes(5) {
			d := filled(t, 11, 4, "old ")
			may, done := cutShort(t, d, []int{4, 0, 3}, limit, c)
			what := fmt.Sprintf("limit %d, %+v", limit, c)
			if done != (limit == steps) {
				t.Fatalf("%s: done: %v", what, done)
			}
			got := whole(t, what, d, may)
			if slices.Equal(got, may[0]) {
				with++
			} else {
				without++
			}
			whole(t, what+", opened again", d, [][]string{got})
		}
	}
	if with == 0 || without == 0 {
		t.Errorf("%d crashes left none of the transaction, %d all", without, with)
	}
}

func TestWhenThePowerGoesInOpen(t *testing.T) {
	const steps = 3 + 1 + 2 // of an Open that brings three pages home
	for _, limit := range []int{6, 7, 8, 9, 10, 11, 12} {
		for again := range steps + 1 {
			for _, c := range crashes(3) {
				d := filled(t, 11, 4, "old ")
				may, _ := cutShort(t, d, []int{4, 0, 3}, limit, crash{mask: c.mask, torn: -1})
				if limit > 6 { // the head that tells of the transaction was safe
					may = may[:1]
				}
				what := fmt.Sprintf("limit %d, limit of Open %d, %+v", limit, again, c)
				d.Limit(again)
				s, e := store.Open(d)
				switch {
				case e == api.OK && s != nil:
					may = [][]string{pages(t, s)}
				case again == steps || e != api.ErrCrash || s != nil:
					t.Fatalf("%s: Open: %v, error %d", what, s, e)
				}
				d.Crash(c.mask, c.torn, c.cut)
				got := whole(t, what, d, may)
				whole(t, what+", opened again", d, [][]string{got})
			}
		}
	}
}

func TestWhenThePowerGoesAgainAndAgain(t *testing.T) {
	r := rand.New(rand.NewSource(5))
	for range 4000 {
		room := 2 + r.Intn(5)
		d := filled(t, 2+room+5, room, "old ")
		l := r.Perm(5)[:1+r.Intn(min(room-1, 5))]
		may, _ := cutShort(t, d, l, r.Intn(2*len(l)+8), some(r))
		what := fmt.Sprintf("pages %v with room %d", l, room)
		for range r.Intn(6) {
			d.Limit(r.Intn(len(l) + 4))
			if _, e := store.Open(d); e != api.OK && e != api.ErrCrash {
				t.Fatalf("%s: Open: error %d", what, e)
			} else if e == api.OK {
				may = [][]string{whole(t, what, d, may)} // what was told once stays so
			}
			c := some(r)
			d.Crash(c.mask, c.torn, c.cut)
		}
		whole(t, what, d, may)
	}
}

// A disk is used on and on, while its power goes at any time.
func TestALongLife(t *testing.T) {
	r := rand.New(rand.NewSource(6))
	for range 25 {
		room := 2 + r.Intn(6)
		d := filled(t, 2+room+6, room, "old ")
		now := pages(t, opened(t, d))
		for i := range 120 {
			s := opened(t, d)
			next := slices.Clone(now)
			for _, at := range r.Perm(6)[:1+r.Intn(min(room-1, 6))] {
				next[at] = full(fmt.Sprint("of the time ", i))
				write(t, s, at, fmt.Sprint("of the time ", i))
			}
			d.Limit(r.Intn(25))
			if s.Commit() == api.OK {
				now = next
			}
			c := some(r)
			d.Crash(c.mask, c.torn, c.cut)
			got := pages(t, opened(t, d))
			if !slices.Equal(got, now) && !slices.Equal(got, next) {
				t.Fatalf("time %d: the pages are %.14q, neither %.14q nor %.14q", i, got, now, next)
			}
			now = got
		}
	}
}

// A list of more than a block, and more late writes than a mask has bits.
func TestWhenThePowerGoesInAGreatCommit(t *testing.T) {
	r := rand.New(rand.NewSource(7))
	l := r.Perm(90)
	l = slices.DeleteFunc(l, func(at int) bool { return at%10 == 3 })
	n := len(l)
	steps := []int{0, 1, 2, 3, n, n + 1, n + 2, n + 3, n + 4, n + 5, n + 6, 2*n + 5, 2*n + 6, 2*n + 7, 2*n + 8, 2*n + 9}
	d := formatted(t, 2+n+2+90, n+2)
	for _, limit := range steps {
		for range 8 {
			may, done := cutShort(t, d, l, limit, some(r))
			if done != (limit >= 2*n+8) {
				t.Fatalf("limit %d: done: %v", limit, done)
			}
			whole(t, fmt.Sprint("limit ", limit), d, may)
			s := opened(t, d)
			for at := range s.Len() {
				write(t, s, at, fmt.Sprint("old ", r.Intn(1000)))
				if at%50 == 49 || at == s.Len()-1 {
					commit(t, s)
				}
			}
		}
	}
}

package pager_test

import (
	"fmt"
	"maps"
	"math/rand"
	"strings"
	"testing"

	"annalist/api"
	"annalist/block"
	"annalist/pager"
	"annalist/store"
)

// state is what a pager is to have: the pages that are given out, with what they have, and the roots.
type state struct {
	data  map[int]string
	roots [pager.Roots]int
}

// standIn is a pager as the words have it: what is committed, what is under way, and which of the store's pages that has.
type standIn struct {
	pages     int
	safe, now state
	dirty     map[int]bool
}

func newStandIn(pages int) *standIn {
	m := &standIn{pages: pages}
	m.commit()
	return m
}

func (s state) clone() state {
	return state{maps.Clone(s.data), s.roots}
}

func (m *standIn) commit() {
	m.safe = m.now.clone()
	m.back()
}

func (m *standIn) back() {
	m.now = m.safe.clone()
	if m.now.data == nil {
		m.now.data = map[int]string{}
	}
	m.dirty = map[int]bool{}
}

func (m *standIn) format() {
	m.now = state{data: map[int]string{}}
	m.dirty[0], m.dirty[1] = true, true
}

func (m *standIn) alloc() (int, api.Errno) {
	for at := 2; at < m.pages; at++ {
		if _, ok := m.now.data[at]; !ok {
			m.now.data[at] = full("")
			m.dirty[0], m.dirty[at] = true, true
			return at, api.OK
		}
	}
	return 0, api.ErrSpace
}

func (m *standIn) free(at int) api.Errno {
	if _, ok := m.now.data[at]; !ok {
		return api.ErrNone
	}
	delete(m.now.data, at)
	m.dirty[0] = true
	return api.OK
}

func (m *standIn) get(at int) (string, api.Errno) {
	data, ok := m.now.data[at]
	if !ok {
		return "", api.ErrNone
	}
	return data, api.OK
}

func (m *standIn) set(at int, data string) api.Errno {
	if _, ok := m.now.data[at]; !ok {
		return api.ErrNone
	}
	if len(data) > api.Size {
		return api.ErrBig
	}
	m.now.data[at] = full(data)
	m.dirty[at] = true
	return api.OK
}

func (m *standIn) setRoot(i, at int) api.Errno {
	if i < 0 || i > 15 {
		return api.ErrArg
	}
	if _, ok := m.now.data[at]; !ok && at != 0 {
		return api.ErrNone
	}
	m.now.roots[i] = at
	m.dirty[1] = true
	return api.OK
}

// fits tells whether a transaction has room in the journal.
func (m *standIn) fits() bool {
	return len(m.dirty) < journal
}

// matches tells whether a pager has that state alone.
func matches(p *pager.Pager, pages int, want state) error {
	if n := pages - 2 - len(want.data); p.Room() != n {
		return fmt.Errorf("Room = %d, not %d", p.Room(), n)
	}
	for at := -1; at <= pages; at++ {
		data, ok := want.data[at]
		got, e := p.Get(at)
		if got != data || ok != (e == api.OK) || !ok && e != api.ErrNone {
			return fmt.Errorf("Get(%d) = %.16q, error %d, not %.16q", at, got, e, data)
		}
	}
	for i, at := range want.roots {
		if got, e := p.Root(i); got != at || e != api.OK {
			return fmt.Errorf("Root(%d) = %d, error %d, not %d", i, got, e, at)
		}
	}
	return nil
}

// step makes a call by chance of a pager and of its stand-in; it tells the call, if these answer otherwise.
func step(r *rand.Rand, p *pager.Pager, m *standIn) string {
	at := r.Intn(m.pages+3) - 1
	switch r.Intn(12) {
	case 0, 1, 2:
		a, e := p.Alloc()
		if b, f := m.alloc(); a != b || e != f {
			return fmt.Sprintf("Alloc = %d, %d, not %d, %d", a, e, b, f)
		}
	case 3:
		if e, f := p.Free(at), m.free(at); e != f {
			return fmt.Sprintf("Free(%d) = %d, not %d", at, e, f)
		}
	case 4, 5, 6:
		data := strings.Repeat(fmt.Sprint(r.Intn(1000)), r.Intn(90))
		if e, f := p.Set(at, data), m.set(at, data); e != f {
			return fmt.Sprintf("Set(%d, %d bytes) = %d, not %d", at, len(data), e, f)
		}
	case 7, 8:
		a, e := p.Get(at)
		if b, f := m.get(at); a != b || e != f {
			return fmt.Sprintf("Get(%d) = %.16q, %d, not %.16q, %d", at, a, e, b, f)
		}
	case 9:
		i := r.Intn(18) - 1
		if r.Intn(4) == 0 {
			at = 0
		}
		if e, f := p.SetRoot(i, at), m.setRoot(i, at); e != f {
			return fmt.Sprintf("SetRoot(%d, %d) = %d, not %d", i, at, e, f)
		}
	case 10:
		i := r.Intn(16)
		if a, e := p.Root(i); a != m.now.roots[i] || e != api.OK {
			return fmt.Sprintf("Root(%d) = %d, %d, not %d", i, a, e, m.now.roots[i])
		}
	case 11:
		if a, b := p.Room(), m.pages-2-len(m.now.data); a != b {
			return fmt.Sprintf("Room = %d, not %d", a, b)
		}
	}
	return ""
}

// end ends a transaction by chance: by Commit, Back, or in that the store is opened anew; then that, and the pager, are others. Or it begins with nothing.
func end(t *testing.T, r *rand.Rand, p *pager.Pager, m *standIn, s *store.Store, d *block.Disk) (*pager.Pager, *store.Store) {
	t.Helper()
	switch r.Intn(8) {
	case 0:
		p.Back()
		m.back()
	case 1:
		d.Crash(r.Uint64(), r.Intn(4), r.Intn(api.Size))
		m.back()
		s = opened(t, d)
		return made(t, s), s
	case 2:
		is(t, "Format", p.Format(), api.OK)
		m.format()
	default:
		e, fits := p.Commit(), m.fits()
		if fits {
			is(t, "Commit", e, api.OK)
			m.commit()
		} else {
			is(t, "Commit of too many", e, api.ErrFull)
			m.back()
		}
	}
	return p, s
}

// P7.6

func TestCallsByChance(t *testing.T) {
	for seed := range int64(60) {
		r := rand.New(rand.NewSource(seed))
		pages := []int{3, 4, 5, 9, 17, 70}[seed%6]
		p, s, d := ready(t, pages)
		m := newStandIn(pages)
		for n := range 600 {
			if wrong := step(r, p, m); wrong != "" {
				t.Fatalf("seed %d, call %d: %s", seed, n, wrong)
			}
			if r.Intn(8) > 0 {
				continue
			}
			p, s = end(t, r, p, m, s, d)
			if e := matches(p, pages, m.now); e != nil {
				t.Fatalf("seed %d, call %d: %v", seed, n, e)
			}
			dirty(t, s, keys(m.dirty, pages)...)
		}
	}
}

// keys are the numbers below a bound that a map has, rising.
func keys(m map[int]bool, below int) []int {
	var l []int
	for at := range below {
		if m[at] {
			l = append(l, at)
		}
	}
	return l
}

// A page that is given out is nobody else's, and only what is set changes it.
func TestNobodyElses(t *testing.T) {
	r := rand.New(rand.NewSource(7))
	p, _, _ := ready(t, 100)
	mine := map[int]string{}
	for n := range 3000 {
		commit(t, p)
		if at := 2 + r.Intn(98); mine[at] != "" {
			has(t, p, at, mine[at])
			if r.Intn(3) > 0 {
				free(t, p, at)
				delete(mine, at)
			}
			continue
		}
		at, e := p.Alloc()
		if len(mine) == 98 {
			is(t, "Alloc of all", e, api.ErrSpace)
			continue
		}
		if e != api.OK || mine[at] != "" || at < 2 || at > 99 {
			t.Fatalf("Alloc = %d, error %d, and has %q", at, e, mine[at])
		}
		mine[at] = fmt.Sprint("page ", at, " of turn ", n)
		put(t, p, at, mine[at])
	}
}

// halfway is a pager with a state that is committed, and another one that is under way. All of it was asked for, so that it is at hand.
func halfway(t *testing.T) (p *pager.Pager, d *block.Disk, safe, now state) {
	t.Helper()
	p, _, d = ready(t, 9)
	for at := 2; at <= 4; at++ {
		alloc(t, p, at)
		put(t, p, at, fmt.Sprint("old ", at))
	}
	root(t, p, 2, 3)
	commit(t, p)
	safe = state{data: map[int]string{2: full("old 2"), 3: full("old 3"), 4: full("old 4")}}
	safe.roots[2] = 3
	now = state{data: map[int]string{2: full("old 2"), 4: full("new 4"), 3: full("")}}
	now.roots[0], now.roots[2] = 4, 2
	free(t, p, 3)
	alloc(t, p, 3)
	put(t, p, 4, "new 4")
	root(t, p, 0, 4)
	root(t, p, 2, 2)
	if e := matches(p, 9, now); e != nil {
		t.Fatal(e)
	}
	return p, d, safe, now
}

func TestWhenThePowerGoes(t *testing.T) {
	before, behind, done := 0, 0, false
	for limit := 0; !done; limit++ {
		for _, mask := range []uint64{0, 1, 2, 3, 5, 6, 8, 15, 1<<64 - 1} {
			p, d, safe, now := halfway(t)
			d.Limit(limit)
			e := p.Commit()
			done = e == api.OK
			if !done {
				is(t, "Commit", e, api.ErrCrash)
				ends(t, p, api.ErrCrash)
			}
			d.Crash(mask, limit%5, 20*limit)
			if !done {
				ends(t, p, api.ErrCrash)
			}
			p = made(t, opened(t, d))
			switch {
			case matches(p, 9, now) == nil:
				behind++
			case !done && matches(p, 9, safe) == nil:
				before++
			default:
				t.Fatalf("limit %d, mask %x: neither %v nor %v", limit, mask, matches(p, 9, now), matches(p, 9, safe))
			}
			// The pager is as good as any.
			alloc(t, p, 5)
			commit(t, p)
		}
	}
	if before == 0 || behind == 0 {
		t.Errorf("%d times as before, %d times as behind: the limits don't reach far enough", before, behind)
	}
}

func TestWhatIsNotCommitted(t *testing.T) {
	_, d, safe, _ := halfway(t)
	p := made(t, opened(t, d))
	if e := matches(p, 9, safe); e != nil {
		t.Error(e)
	}
	p, d, _, now := halfway(t)
	commit(t, p)
	p = made(t, opened(t, d))
	if e := matches(p, 9, now); e != nil {
		t.Error(e)
	}
}

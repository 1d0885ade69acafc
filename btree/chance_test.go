package btree_test

import (
	"fmt"
	"maps"
	"math/rand"
	"slices"
	"strings"
	"testing"

	"annalist/api"
	"annalist/block"
	"annalist/btree"
	"annalist/pager"
)

// roots are those of the trees that calls by chance are made of.
var roots = []int{0, 5, 15}

// state is what the trees of the roots are to have.
type state [3]records

func (s state) clone() state {
	for i := range s {
		s[i] = maps.Clone(s[i])
		if s[i] == nil {
			s[i] = records{}
		}
	}
	return s
}

// some is a key by chance: of few, so that they meet; short, or long.
func some(r *rand.Rand) string {
	k := fmt.Sprintf("%02d", r.Intn(100))
	switch r.Intn(3) {
	case 0:
		return k + strings.Repeat("k", 30)
	case 1:
		return k + strings.Repeat("\xff", r.Intn(31))
	}
	return k[:1+r.Intn(2)]
}

// step makes a call by chance of a tree, and of what it is to have; it tells the call, if it answers otherwise.
func step(r *rand.Rand, p *pager.Pager, x *btree.Tree, want records) string {
	k := some(r)
	v, in := want[k]
	room := p.Room()
	switch n := r.Intn(20); {
	case n < 8:
		v = strings.Repeat("v", r.Intn(81))
		e := x.Put(k, v)
		if took := room - p.Room(); took > 8 || e != api.OK && (e != api.ErrSpace || room >= 16 || took != 0) {
			return fmt.Sprintf("Put(%q, %d bytes) = %d, with a Room of %d, takes %d", k, len(v), e, room, took)
		}
		if e == api.OK {
			want[k] = v
		}
	case n < 15:
		e := x.Delete(k)
		if p.Room() < room || in != (e == api.OK) || !in && e != api.ErrNone {
			return fmt.Sprintf("Delete(%q) = %d, takes %d", k, e, room-p.Room())
		}
		delete(want, k)
	case n < 18:
		got, e := x.Get(k)
		if got != v || in != (e == api.OK) || !in && e != api.ErrNone {
			return fmt.Sprintf("Get(%q) = %q, %d, not %q", k, got, e, v)
		}
	case n < 19:
		if got, l := given(x, k), rising(want, k); !slices.Equal(got, l) {
			return fmt.Sprintf("From(%q) gives %.200q, not %.200q", k, got, l)
		}
	case r.Intn(40) == 0:
		if e := x.Drop(); e != api.OK {
			return fmt.Sprintf("Drop = %d", e)
		}
		clear(want)
	}
	return ""
}

// opens are the trees of the roots.
func opens(t *testing.T, p *pager.Pager) []*btree.Tree {
	t.Helper()
	var l []*btree.Tree
	for _, i := range roots {
		l = append(l, tree(t, p, i))
	}
	return l
}

// agrees tells whether the trees of the roots have that state alone.
func agrees(t *testing.T, p *pager.Pager, pages int, want state) error {
	t.Helper()
	trees := opens(t, p)
	for i, x := range trees {
		if e := matches(x, want[i]); e != nil {
			return fmt.Errorf("root %d: %w", roots[i], e)
		}
	}
	return owns(p, pages, trees...)
}

func TestCallsByChance(t *testing.T) {
	for seed := range int64(40) {
		r := rand.New(rand.NewSource(seed))
		pages := []int{3, 12, 30, 300}[seed%4]
		d := disk(t, pages)
		p := opened(t, d)
		safe, now := state{}.clone(), state{}.clone()
		trees := opens(t, p)
		for n := range 1500 {
			i := r.Intn(len(roots))
			if wrong := step(r, p, trees[i], now[i]); wrong != "" {
				t.Fatalf("seed %d, call %d: %s", seed, n, wrong)
			}
			switch r.Intn(60) {
			case 0:
				commit(t, p)
				safe = now.clone()
			case 1:
				p.Back()
				now = safe.clone()
			case 2:
				p = opened(t, d)
				trees = opens(t, p)
				now = safe.clone()
			}
			if r.Intn(20) == 0 {
				if e := agrees(t, p, pages, now); e != nil {
					t.Fatalf("seed %d, call %d: %v", seed, n, e)
				}
			}
		}
	}
}

// halfway is a disk with trees that are committed, and others that are under way.
func halfway(t *testing.T) (p *pager.Pager, d *block.Disk, safe, now state) {
	t.Helper()
	d = disk(t, 40)
	p = opened(t, d)
	safe = state{}.clone()
	trees := opens(t, p)
	for i := range 15 {
		k, v := long(i)
		put(t, trees[0], k, v)
		safe[0][k] = v
	}
	put(t, trees[1], "old", "record")
	safe[1]["old"] = "record"
	commit(t, p)
	now = safe.clone()
	for i := range 10 {
		k, _ := long(i)
		del(t, trees[0], k)
		delete(now[0], k)
		k, v := long(i + 50)
		put(t, trees[2], k, v)
		now[2][k] = v
	}
	del(t, trees[1], "old")
	delete(now[1], "old")
	if e := agrees(t, p, 40, now); e != nil {
		t.Fatal(e)
	}
	return p, d, safe, now
}

func TestWhenThePowerGoes(t *testing.T) {
	before, behind, done := 0, 0, false
	for limit := 0; !done; limit++ {
		for _, mask := range []uint64{0, 1, 2, 5, 1<<64 - 1} {
			p, d, safe, now := halfway(t)
			x := tree(t, p, 0)
			d.Limit(limit)
			e := p.Commit()
			done = e == api.OK
			if !done {
				is(t, "Commit", e, api.ErrCrash)
				ends(t, x, api.ErrCrash)
			}
			d.Crash(mask, limit%5, 20*limit%256)
			p = opened(t, d)
			switch {
			case agrees(t, p, 40, now) == nil:
				behind++
			case !done && agrees(t, p, 40, safe) == nil:
				before++
			default:
				t.Fatalf("limit %d, mask %x: neither %v nor %v", limit, mask, agrees(t, p, 40, now), agrees(t, p, 40, safe))
			}
		}
	}
	if before == 0 || behind == 0 {
		t.Errorf("%d times as before, %d times as behind: the limits don't reach far enough", before, behind)
	}
}

// Pages that others wrote

// forged is a pager with a tree of the root 5 whose pages are known, and of which one is to be written by others.
func forged(t *testing.T, n int) (*pager.Pager, *btree.Tree, []int) {
	t.Helper()
	p := ready(t, 200)
	for i := range 3 {
		put(t, tree(t, p, 1), fmt.Sprint("of another tree ", i), strings.Repeat("o", 80))
	}
	x := tree(t, p, 5)
	for i := range n {
		k, v := long(i * 7 % n)
		put(t, x, k, v[:i*13%81])
	}
	return p, x, x.Pages()
}

// bears tells whether a tree whose pages others wrote keeps what is said of it; all calls end.
func bears(p *pager.Pager, x *btree.Tree) error {
	sound, last, n := x.Sound(), "", 0
	for k, v := range x.All() {
		n++
		if !sound {
			continue
		}
		if got, e := x.Get(k); n > 1 && k <= last || got != v || e != api.OK || len(k) > api.MaxKey || k == "" || len(v) > api.MaxRecord {
			return fmt.Errorf("it is Sound, but All gives %q behind %q, and Get %q, not %q, error %d", k, last, got, v, e)
		}
		last = k
	}
	if n != x.Count() {
		return fmt.Errorf("All gives %d records, Count is %d", n, x.Count())
	}
	l := x.Pages()
	seen := map[int]bool{}
	for _, at := range l {
		if seen[at] {
			return fmt.Errorf("Pages tells %d twice", at)
		}
		seen[at] = true
	}
	if root, e := p.Root(5); e != api.OK || root != 0 && (len(l) == 0 || l[0] != root || x.Depth() < 1) || root == 0 && (l != nil || x.Depth() != 0) {
		return fmt.Errorf("the root is %d, error %d; Pages tells %v, Depth %d", root, e, l, x.Depth())
	}
	return nil
}

// copies are all pages that are given out.
func copies(p *pager.Pager) map[int]string {
	l := map[int]string{}
	for at := range 202 {
		if data, e := p.Get(at); e == api.OK {
			l[at] = data
		}
	}
	return l
}

// survives makes calls of a tree whose pages others wrote: each of them ends, and one with an error leaves all as it was.
func survives(t *testing.T, r *rand.Rand, p *pager.Pager, x *btree.Tree) {
	t.Helper()
	if e := bears(p, x); e != nil {
		t.Fatal(e)
	}
	for range 6 {
		k, v := long(r.Intn(60))
		before := copies(p)
		var e api.Errno
		if r.Intn(2) == 0 {
			e = x.Put(k, v)
		} else {
			e = x.Delete(k)
		}
		if e != api.OK && e != api.ErrNone {
			t.Fatalf("a call has the error %d", e)
		}
		if e != api.OK && !maps.Equal(copies(p), before) {
			t.Fatal("a call with an error writes")
		}
		if e := bears(p, x); e != nil {
			t.Fatal(e)
		}
	}
	l := x.Pages()
	is(t, "Drop", x.Drop(), api.OK)
	for _, at := range l {
		if _, e := p.Get(at); e != api.ErrNone {
			t.Fatalf("page %d is still given out: error %d", at, e)
		}
	}
	if e := matches(x, nil); e != nil || x.Pages() != nil {
		t.Fatal(e, x.Pages())
	}
	put(t, x, "new", "record")
	if e := matches(x, records{"new": "record"}); e != nil {
		t.Fatal(e)
	}
}

// set has others write a page.
func set(t *testing.T, p *pager.Pager, at int, data string) {
	t.Helper()
	is(t, fmt.Sprintf("Set(%d)", at), p.Set(at, data), api.OK)
}

func TestPagesOfJunk(t *testing.T) {
	for seed := range int64(300) {
		r := rand.New(rand.NewSource(seed))
		p, x, l := forged(t, 1+r.Intn(60))
		for range 1 + r.Intn(4) {
			at := l[r.Intn(len(l))]
			data, _ := p.Get(at)
			b := []byte(data)
			switch r.Intn(3) {
			case 0: // some bytes
				for range 1 + r.Intn(3) {
					b[r.Intn(len(b))] = byte(r.Intn(256))
				}
			case 1: // those that lengths and levels are likely to be
				for range 1 + r.Intn(3) {
					b[r.Intn(40)] = byte(r.Intn(40))
				}
			default: // all
				for i := range b {
					b[i] = byte(r.Intn(1 + r.Intn(256)))
				}
			}
			set(t, p, at, string(b))
		}
		survives(t, r, p, x)
	}
}

func TestPagesInOthersPlaces(t *testing.T) {
	for seed := range int64(300) {
		r := rand.New(rand.NewSource(seed))
		p, x, l := forged(t, 5+r.Intn(60))
		l = append(l, tree(t, p, 1).Pages()...)
		for range 1 + r.Intn(3) {
			data, _ := p.Get(l[r.Intn(len(l))])
			set(t, p, l[r.Intn(len(l))], data)
		}
		survives(t, r, p, x)
	}
}

func TestPagesThatAreTakenBack(t *testing.T) {
	for seed := range int64(100) {
		r := rand.New(rand.NewSource(seed))
		p, x, l := forged(t, 5+r.Intn(60))
		at := l[r.Intn(len(l))]
		data, _ := p.Get(at)
		is(t, "Free", p.Free(at), api.OK)
		if x.Sound() {
			t.Fatalf("it is Sound without page %d", at)
		}
		if !slices.Contains(x.Pages(), at) {
			t.Fatalf("it leads to page %d, but Pages tells %v", at, x.Pages())
		}
		// Nothing is below a page with records: so all others are told.
		if data[0] == 1 && !slices.Equal(x.Pages(), l) {
			t.Fatalf("Pages tells %v, not %v", x.Pages(), l)
		}
		survives(t, r, p, x)
	}
}

func TestRootsThatOthersSet(t *testing.T) {
	r := rand.New(rand.NewSource(1))
	_, _, l := forged(t, 60)
	for _, at := range l {
		p, x, _ := forged(t, 60)
		is(t, "SetRoot", p.SetRoot(5, at), api.OK)
		survives(t, r, p, x)
	}
	// The root of another tree is as good as one's own.
	p, x, _ := forged(t, 20)
	at, _ := p.Root(1)
	is(t, "SetRoot", p.SetRoot(5, at), api.OK)
	if x.Count() != 3 || !x.Sound() {
		t.Errorf("Count = %d, Sound = %t", x.Count(), x.Sound())
	}
	survives(t, r, p, x)
}

// raw writes a page as a tree has it: its level, and its pairs.
func raw(level int, l ...string) string {
	b := []byte{byte(level), byte(len(l) / 2)}
	for i := 0; i < len(l); i += 2 {
		b = append(b, byte(len(l[i])), byte(len(l[i+1])))
		b = append(b, l[i]+l[i+1]...)
	}
	return string(b)
}

// to is a page's number, as a tree has it.
func to(at int) string {
	return string([]byte{byte(at), byte(at >> 8)})
}

func TestSound(t *testing.T) {
	long, most := strings.Repeat("k", 33), strings.Repeat("v", 80)
	// The root is page 2, and pages 3 to 7 are given out, too.
	for _, c := range []struct {
		name  string
		want  bool
		pages []string
	}{
		{"a record", true, []string{raw(1, "a", "1")}},
		{"records in order", true, []string{raw(1, "a", "", "aa", "2", "b", "3")}},
		{"the longest key", true, []string{raw(1, long[:32], most)}},
		{"two pages", true, []string{raw(2, "", to(3), "m", to(4)), raw(1, "a", "1"), raw(1, "m", "2")}},
		{"three levels", true, []string{
			raw(3, "", to(3), "m", to(4)),
			raw(2, "", to(5), "g", to(6)), raw(2, "m", to(7), "t", to(8)),
			raw(1, "f", "1"), raw(1, "l", "2"), raw(1, "n", "3"), raw(1, "t", "4"),
		}},
		{"nothing", false, []string{""}},
		{"no record", false, []string{raw(1)}},
		{"level 0", false, []string{raw(0, "a", "1")}},
		{"level 0, above pages", false, []string{raw(0, "", to(3), "m", to(4)), raw(1, "a", "1"), raw(1, "m", "2")}},
		{"no key", false, []string{raw(1, "", "1")}},
		{"a long key", false, []string{raw(1, long, "1")}},
		{"a long record", false, []string{raw(1, "a", strings.Repeat("v", 81))}},
		{"keys that fall", false, []string{raw(1, "b", "1", "a", "2")}},
		{"keys that are alike", false, []string{raw(1, "a", "1", "a", "2")}},
		{"more pairs than there is room for", false, []string{"\x01\x80" + strings.Repeat("\x01\x00a", 84)}},
		{"a key beyond the page", false, []string{"\x01\x02\x01\x00a" + strings.Repeat("\xff", 251)}},
		{"a record beyond the page", false, []string{"\x01\x04" + raw(1, "a", most, "b", most, "c", most)[2:] + "\x01\x50d"}},
		{"a length beyond the page", false, []string{"\x01\x04" + raw(1, "a", most, "b", most, "ccccc", most)[2:] + "\x01"}},
		{"lengths beyond the page", false, []string{"\x01\x04" + raw(1, "a", most, "b", most, "cccccc", most)[2:]}},
		{"one page below alone", false, []string{raw(2, "", to(3)), raw(1, "a", "1")}},
		{"no page below", false, []string{raw(2)}},
		{"a number of three bytes", false, []string{raw(2, "", to(3), "m", to(4)+"\x00"), raw(1, "a", "1"), raw(1, "m", "2")}},
		{"a number of one byte", false, []string{raw(2, "", "\x03", "m", to(4)), raw(1, "a", "1"), raw(1, "m", "2")}},
		{"a number of no byte", false, []string{raw(2, "", "", "m", to(4)), raw(1, "a", "1"), raw(1, "m", "2")}},
		{"a number of no page", false, []string{raw(2, "", to(3), "m", to(5)), raw(1, "a", "1"), raw(1, "m", "2")}},
		{"a number of a page of the pager", false, []string{raw(2, "", to(3), "m", to(1)), raw(1, "a", "1"), raw(1, "m", "2")}},
		{"a page below that leads to its own", false, []string{raw(2, "", to(2), "m", to(3)), raw(1, "m", "1")}},
		{"a page that leads to itself, and has all keys", false, []string{raw(1+1, "", to(2), "a", to(2))}},
		{"one page twice", false, []string{raw(2, "", to(3), "m", to(3)), raw(1, "a", "1", "z", "2")}},
		{"two levels at once", false, []string{raw(3, "", to(3), "m", to(4)), raw(2, "", to(5), "g", to(6)), raw(1, "m", "2"), raw(1, "a", "1"), raw(1, "g", "1")}},
		{"pages out of order", false, []string{raw(2, "", to(3), "m", to(4)), raw(1, "m", "1"), raw(1, "a", "2")}},
		{"a key above its page's", false, []string{raw(2, "", to(3), "m", to(4)), raw(1, "a", "1", "m", "2"), raw(1, "n", "3")}},
		{"a key below its page's", false, []string{raw(2, "", to(3), "m", to(4)), raw(1, "a", "1"), raw(1, "l", "3", "n", "4")}},
		{"keys that no page has", false, []string{raw(2, "b", to(3), "m", to(4)), raw(1, "b", "1"), raw(1, "m", "2")}},
		{"more pages than may be", false, []string{
			raw(2, "", to(3), "b", to(4), "c", to(5), "d", to(6), "e", to(7), "f", to(8), "g", to(9), "h", to(10)),
			raw(1, "a", ""), raw(1, "b", ""), raw(1, "c", ""), raw(1, "d", ""), raw(1, "e", ""), raw(1, "f", ""), raw(1, "g", ""), raw(1, "h", ""),
		}},
		{"a page below that is empty", false, []string{raw(2, "", to(3), "m", to(4)), raw(1, "a", "1"), raw(1)}},
	} {
		p := ready(t, 200)
		for i, data := range c.pages {
			at, _ := p.Alloc()
			if at != i+2 {
				t.Fatalf("page %d", at)
			}
			set(t, p, at, data)
		}
		is(t, "SetRoot", p.SetRoot(5, 2), api.OK)
		x := tree(t, p, 5)
		if x.Sound() != c.want {
			t.Errorf("Sound of %s = %t", c.name, x.Sound())
		}
		if e := bears(p, x); e != nil {
			t.Errorf("%s: %v", c.name, e)
		}
		if c.want {
			if l := x.Pages(); len(l) != len(c.pages) {
				t.Errorf("%s: Pages = %v", c.name, l)
			}
		}
		survives(t, rand.New(rand.NewSource(1)), p, x)
	}
}

// Each page leads to the next one several times: to go through all ways would take for ever.
func TestPagesThatMeetAgain(t *testing.T) {
	p := ready(t, 200)
	for i := range 150 {
		at, _ := p.Alloc()
		set(t, p, at, raw(151-i, "", to(at+1), "a", to(at+1), "b", to(at+1), "c", to(at+1)))
	}
	at, _ := p.Alloc()
	set(t, p, at, raw(1, "0", "1"))
	is(t, "SetRoot", p.SetRoot(5, 2), api.OK)
	x := tree(t, p, 5)
	if x.Sound() {
		t.Error("it is Sound")
	}
	survives(t, rand.New(rand.NewSource(1)), p, x)
}

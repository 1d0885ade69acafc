package lin_test

import (
	"math/rand"
	"slices"
	"testing"

	"annalist/api"
	"annalist/cut"
	"annalist/lin"
	"annalist/model"
	"annalist/op"
)

// trial is a search anew, by brute force: it goes through all orders in which operations can be done, one by one.
type trial struct {
	ops   []api.Op
	spots map[string]bool
	exits map[string][]int
}

// try goes on from the operations of some places, done in this order from an entry.
func (x *trial) try(entry []int, places []int) {
	var l []api.Op
	for _, i := range places {
		l = append(l, x.ops[i])
	}
	state, ok := model.Runs(entry, l)
	if !ok {
		return
	}
	x.note(places, state)
	for i := range x.ops {
		if x.mayFollow(places, i) {
			x.try(entry, append(slices.Clone(places), i))
		}
	}
}

// note notes a spot, and whether it is an exit.
func (x *trial) note(places []int, state []int) {
	name := make([]byte, len(x.ops))
	out := true
	for i, o := range x.ops {
		if slices.Contains(places, i) {
			name[i] = 1
		} else if o.Done {
			out = false
		}
	}
	x.spots[string(name)+model.Text(state)] = true
	if out {
		x.exits[model.Text(state)] = state
	}
}

// mayFollow tells whether the operation of a place isn't among those of others, and all that are before it are.
func (x *trial) mayFollow(places []int, i int) bool {
	if slices.Contains(places, i) {
		return false
	}
	for j, o := range x.ops {
		if op.Before(o, x.ops[i]) && !slices.Contains(places, j) {
			return false
		}
	}
	return true
}

// tried is what a search is to find.
func tried(l []api.Op, entries [][]int) api.Summary {
	x := trial{l, map[string]bool{}, map[string][]int{}}
	for _, entry := range entries {
		x.try(entry, nil)
	}
	return api.Summary{Entries: sorted(entries), Exits: sorted(values(x.exits)), Count: len(x.spots)}
}

// values are the states of a map, in no order.
func values(m map[string][]int) [][]int {
	var l [][]int
	for _, state := range m {
		l = append(l, state)
	}
	return l
}

// sorted is P15.1 anew: each state is put where it belongs.
func sorted(l [][]int) [][]int {
	var out [][]int
	for _, state := range l {
		at := 0
		for at < len(out) && model.Text(out[at]) < model.Text(state) {
			at++
		}
		if at == len(out) || !slices.Equal(out[at], state) {
			out = slices.Insert(out, at, state)
		}
	}
	return out
}

// explained is P15.3 anew: the states that orders of all Done operations, and of some of the others, run to.
func explained(l []api.Op, entries [][]int) [][]int {
	ends := map[string][]int{}
	for _, order := range picks(len(l)) {
		if !isOrder(l, order) {
			continue
		}
		var done []api.Op
		for _, i := range order {
			done = append(done, l[i])
		}
		for _, entry := range entries {
			if state, ok := model.Runs(entry, done); ok {
				ends[model.Text(state)] = state
			}
		}
	}
	return sorted(values(ends))
}

// isOrder tells whether an order has all Done operations, and none behind one that it is before.
func isOrder(l []api.Op, order []int) bool {
	for i, o := range l {
		if o.Done && !slices.Contains(order, i) {
			return false
		}
	}
	for at, i := range order {
		for _, j := range order[:at] {
			if op.Before(l[i], l[j]) {
				return false
			}
		}
	}
	return true
}

// picks are all orders of some of the numbers below size.
func picks(size int) [][]int {
	all := [][]int{nil}
	for at := 0; at < len(all); at++ {
		for n := range size {
			if !slices.Contains(all[at], n) {
				all = append(all, append(slices.Clone(all[at]), n))
			}
		}
	}
	return all
}

// source makes operations and states by chance.
type source struct {
	*rand.Rand
}

// label is a method of a kind, with small arguments, so that they meet.
func (r source) label(kind int) api.Op {
	methods := [][]int{
		api.Register: {api.Read, api.Write, api.Cas}, api.Counter: {api.Read, api.Inc, api.Dec}, api.Queue: {api.Enq, api.Deq},
		api.Stack: {api.Push, api.Pop}, api.Set: {api.Add, api.Remove, api.Has}, api.Mutex: {api.Lock, api.Unlock},
	}[kind]
	return api.Op{Kind: kind, Method: methods[r.Intn(len(methods))], Proc: r.Intn(3), Arg: r.Intn(3), Second: r.Intn(3)}
}

// entry is a state of a kind; seldom one of none.
func (r source) entry(kind int) []int {
	if r.Intn(20) == 0 {
		kind = 1 + r.Intn(6)
	}
	switch kind {
	case api.Register, api.Counter:
		return []int{r.Intn(3)}
	case api.Set:
		l := r.Perm(3)[:r.Intn(4)]
		slices.Sort(l)
		return l
	case api.Mutex:
		return []int{r.Intn(3)}[:r.Intn(2)]
	}
	return r.Perm(3)[:r.Intn(3)]
}

// entries are a few states of a kind, some of them twice.
func (r source) entries(kind int) [][]int {
	var l [][]int
	for range 1 + r.Intn(4) {
		l = append(l, r.entry(kind))
	}
	return l
}

// segment is operations of a kind that an order from a state explains, but for a few answers that are changed.
func (r source) segment(kind, size int) []api.Op {
	state, long := r.entry(kind), 1+r.Intn(40)
	var l []api.Op
	for len(l) < size {
		o := r.label(kind)
		next, answer, ok := model.Do(state, o)
		if !ok && r.Intn(4) > 0 {
			continue
		}
		if ok {
			state = next
		}
		at := 10 * len(l)
		o.ID, o.Done, o.Result = 1+len(l), true, answer
		o.Invoke, o.Return = at-r.Intn(long), at+1+r.Intn(long)
		switch r.Intn(15) {
		case 0:
			o.Result = r.Intn(4) - 1
		case 1, 2:
			o.Done, o.Result, o.Return = false, 0, 0
		}
		l = append(l, o)
	}
	r.Shuffle(size, func(i, j int) { l[i], l[j] = l[j], l[i] })
	return l
}

// anything is operations most of which may not be: of several kinds, alike, and answered ahead of their invocation.
func (r source) anything(size int) []api.Op {
	kind := 1 + r.Intn(6)
	var l []api.Op
	for len(l) < size {
		o := r.label(kind)
		if r.Intn(12) == 0 {
			o.Kind = r.Intn(9) - 1
		}
		o.ID, o.Done, o.Result, o.Invoke = r.Intn(3), r.Intn(3) > 0, r.Intn(2), r.Intn(8)-3
		o.Return = o.Invoke + r.Intn(8) - 1
		l = append(l, o)
		if r.Intn(10) == 0 && len(l) < size {
			l = append(l, o)
		}
	}
	return l
}

// find is a search whose budget is enough.
func find(t *testing.T, l []api.Op, entries [][]int) api.Summary {
	t.Helper()
	x, e := lin.Search(api.Segment{Ops: l}, entries, api.MaxBudget)
	if e != api.OK {
		t.Fatalf("Search(%+v, %v): error %d", l, entries, e)
	}
	return x
}

func TestUniqueByChance(t *testing.T) {
	r := source{rand.New(rand.NewSource(1501))}
	for range 5000 {
		var l [][]int
		for range r.Intn(20) {
			var state []int
			for range r.Intn(4) {
				state = append(state, (r.Intn(5)-2)<<r.Intn(20))
			}
			l = append(l, state)
			if r.Intn(3) == 0 {
				l = append(l, state)
			}
		}
		if got, want := lin.Unique(l), sorted(l); !alike(got, want) {
			t.Errorf("Unique(%v) = %v, not %v", l, got, want)
		}
	}
}

// P15.2

func TestSearchByChance(t *testing.T) {
	r := source{rand.New(rand.NewSource(1502))}
	with, without, greatest := 0, 0, 0
	for i := range 6000 {
		kind, size := 1+i%6, r.Intn(8)
		l := r.segment(kind, size)
		entries := r.entries(kind)
		want := tried(l, entries)
		search(t, l, entries, want.Exits, want.Count)
		greatest = max(greatest, want.Count)
		if len(want.Exits) > 0 {
			with++
		} else {
			without++
		}
	}
	if with < 1500 || without < 1000 || greatest < 100 {
		t.Errorf("%d segments have exits, %d have none, one has %d spots", with, without, greatest)
	}
}

func TestSearchOfAnythingByChance(t *testing.T) {
	r := source{rand.New(rand.NewSource(1512))}
	exits, stuck := 0, 0
	for range 6000 {
		l := r.anything(r.Intn(7))
		entries := r.entries(1 + r.Intn(6))
		want := tried(l, entries)
		search(t, l, entries, want.Exits, want.Count)
		exits += len(want.Exits)
		if slices.ContainsFunc(l, func(o api.Op) bool { return op.Before(o, o) }) {
			stuck++
		}
	}
	if exits < 500 || stuck < 500 {
		t.Errorf("only %d exits, only %d segments with an operation that is before itself", exits, stuck)
	}
}

// P15.3

func TestExitsAreWhatOrdersRunTo(t *testing.T) {
	r := source{rand.New(rand.NewSource(1503))}
	count := 0
	for i := range 2400 {
		kind, size := 1+i%6, r.Intn(6)
		if i%40 == 0 {
			size = 6
		}
		l, entries := r.segment(kind, size), r.entries(kind)
		want := explained(l, entries)
		count += len(want)
		if x := find(t, l, entries); !alike(x.Exits, want) {
			t.Errorf("of %+v, entered with %v, the exits are %v, not %v", l, entries, x.Exits, want)
		}
	}
	if count < 1000 {
		t.Errorf("only %d exits", count)
	}
}

func TestMoreEntriesHaveMoreExits(t *testing.T) {
	r := source{rand.New(rand.NewSource(1513))}
	more := 0
	for i := range 3000 {
		kind := 1 + i%6
		l := r.segment(kind, r.Intn(9))
		a, b := r.entries(kind), r.entries(kind)
		x, y, both := find(t, l, a), find(t, l, b), find(t, l, slices.Concat(a, b))
		if want := lin.Unique(slices.Concat(x.Exits, y.Exits)); !alike(both.Exits, want) {
			t.Errorf("of %+v, entered with %v and %v, the exits are %v, not %v", l, a, b, both.Exits, want)
		}
		if want := lin.Unique(slices.Concat(x.Entries, y.Entries)); !alike(both.Entries, want) {
			t.Errorf("the entries of %v and %v are %v", a, b, both.Entries)
		}
		if both.Count < max(x.Count, y.Count) || both.Count > x.Count+y.Count {
			t.Errorf("of %+v, entered with %v and %v, there are %d spots, not between %d and %d", l, a, b, both.Count, x.Count, y.Count)
		}
		if len(both.Exits) > len(x.Exits) {
			more++
		}
	}
	if more < 300 {
		t.Errorf("only %d times more entries had more exits", more)
	}
}

// TestEnteredWithTheExits searches piece by piece, each entered with the exits of the one ahead: that comes to what the whole does.
func TestEnteredWithTheExits(t *testing.T) {
	r := source{rand.New(rand.NewSource(1523))}
	several := 0
	for i := range 3000 {
		kind := 1 + i%6
		l := r.segment(kind, r.Intn(12))
		states := r.entries(kind)
		whole := find(t, l, states)
		pieces := cut.Segments(api.Segment{Kind: kind, Ops: l})
		for _, s := range pieces {
			states = find(t, s.Ops, states).Exits
		}
		if len(pieces) > 1 && len(states) > 0 {
			several++
		}
		if len(pieces) > 0 && !alike(states, whole.Exits) {
			t.Errorf("of %+v the exits are %v, but piece by piece %v", l, whole.Exits, states)
		}
	}
	if several < 300 {
		t.Errorf("only %d lists have several pieces", several)
	}
}

// TestPlacesDoNotMatter turns segments round: what is found hangs on the operations, not on where they stand.
func TestPlacesDoNotMatter(t *testing.T) {
	r := source{rand.New(rand.NewSource(1533))}
	for i := range 1000 {
		kind := 1 + i%6
		l, entries := r.segment(kind, r.Intn(13)), r.entries(kind)
		want := find(t, l, entries)
		for range 3 {
			r.Shuffle(len(l), func(i, j int) { l[i], l[j] = l[j], l[i] })
			r.Shuffle(len(entries), func(i, j int) { entries[i], entries[j] = entries[j], entries[i] })
			if x := find(t, l, entries); !same(x, want) {
				t.Errorf("of %+v, entered with %v, the search finds %v, not %v", l, entries, x, want)
			}
		}
	}
}

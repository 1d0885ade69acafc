package lin_test

import (
	"math"
	"slices"
	"testing"

	"annalist/api"
	"annalist/lin"
	"annalist/model"
)

// done is an operation of a kind with an answer.
func done(kind, method, arg, result, from, to int) api.Op {
	return api.Op{ID: 1, Kind: kind, Method: method, Arg: arg, Done: true, Result: result, Invoke: from, Return: to}
}

// pending is one without an answer.
func pending(kind, method, arg, from int) api.Op {
	return api.Op{ID: 1, Kind: kind, Method: method, Arg: arg, Invoke: from}
}

func read(result, from, to int) api.Op { return done(api.Register, api.Read, 0, result, from, to) }

func write(arg, from, to int) api.Op { return done(api.Register, api.Write, arg, 0, from, to) }

func enq(arg, from, to int) api.Op { return done(api.Queue, api.Enq, arg, 0, from, to) }

func deq(result, from, to int) api.Op { return done(api.Queue, api.Deq, 0, result, from, to) }

// list is states, so that it can be written shortly.
func list(l ...[]int) [][]int { return l }

// ones is states of a number each.
func ones(l ...int) [][]int {
	var out [][]int
	for _, n := range l {
		out = append(out, []int{n})
	}
	return out
}

// alike tells whether two lists have the same states.
func alike(a, b [][]int) bool {
	return slices.EqualFunc(a, b, slices.Equal[[]int])
}

// same tells whether two summaries are the same.
func same(a, b api.Summary) bool {
	return alike(a.Entries, b.Entries) && alike(a.Exits, b.Exits) && a.Count == b.Count
}

// search tells that operations, entered so, have these exits and so many spots, and that any budget but a less one is enough.
func search(t *testing.T, l []api.Op, entries, exits [][]int, count int) {
	t.Helper()
	want := api.Summary{Entries: lin.Unique(entries), Exits: exits, Count: count}
	for _, budget := range []int{count, count + 1, 1<<15 - 1, 1 << 15, 1<<15 + 1, 1 << 32, math.MaxInt} {
		if budget < count {
			continue
		}
		if x, e := lin.Search(api.Segment{Ops: l}, entries, budget); e != api.OK || !same(x, want) {
			t.Errorf("Search(%+v, %v, %d) = %v, %d, not %v", l, entries, budget, x, e, want)
		}
	}
	for _, budget := range []int{count - 1, count / 2, 0, -1, -1 << 15, -1 << 32, math.MinInt} {
		if budget < count {
			refused(t, l, entries, budget, api.ErrBudget)
		}
	}
}

// refused tells that a search has an error, and nothing beside it.
func refused(t *testing.T, l []api.Op, entries [][]int, budget int, want api.Errno) {
	t.Helper()
	x, e := lin.Search(api.Segment{Ops: l}, entries, budget)
	if e != want || len(x.Entries) != 0 || len(x.Exits) != 0 || x.Count != 0 {
		t.Errorf("Search of %d operations, %d entries, the budget %d = %v, %d, not %d", len(l), len(entries), budget, x, e, want)
	}
}

// many is states of a number each, each another one.
func many(size int) [][]int {
	var l [][]int
	for n := range size {
		l = append(l, []int{n})
	}
	return l
}

// P15.1

func unique(t *testing.T, l, want [][]int) {
	t.Helper()
	for range max(1, len(l)) {
		if got := lin.Unique(l); !alike(got, want) {
			t.Errorf("Unique(%v) = %v, not %v", l, got, want)
		}
		if len(l) > 0 {
			l = append(slices.Clone(l[1:]), l[0])
		}
	}
}

func TestUnique(t *testing.T) {
	unique(t, list([]int{2}, nil, []int{1, 1}, []int{2}), list(nil, []int{2}, []int{1, 1}))
	unique(t, ones(5), ones(5))
	unique(t, ones(5, 5, 5, 5), ones(5))
	unique(t, ones(9, 5, 9, 5, 9), ones(5, 9))
}

func TestUniqueOfNone(t *testing.T) {
	unique(t, nil, nil)
	unique(t, [][]int{}, nil)
	unique(t, make([][]int, 0, 5), nil)
	unique(t, list(nil), list(nil))
	unique(t, list(nil, []int{}, nil, make([]int, 0, 4)), list(nil))
}

// TestUniqueStandsByTexts has states whose texts stand in another order than their numbers, or lengths.
func TestUniqueStandsByTexts(t *testing.T) {
	unique(t, ones(-2, -1, 0, 1, 2), ones(0, -1, 1, -2, 2))
	unique(t, ones(62, 63, 64, 65, -63, -64, -65, -66), ones(62, -63, 63, -64, 64, -65, 65, -66))
	// 64, 128 and 8192 are the groups 128 1, 128 2 and 128 128 1.
	unique(t, ones(8192, 128, 64, 65, 63), ones(63, 64, 128, 8192, 65))
	unique(t, ones(math.MaxInt, math.MinInt, 0, -1), ones(0, -1, math.MaxInt, math.MinInt))
	unique(t, list([]int{9}, []int{0, 0}, nil, []int{-1, 1}, []int{1, -1}), list(nil, []int{9}, []int{0, 0}, []int{-1, 1}, []int{1, -1}))
	// A state of 256 numbers has the length 128 2, one of 129 the length 129 1.
	long := list(make([]int, 129), make([]int, 256), make([]int, 128), make([]int, 127))
	unique(t, long, list(long[3], long[2], long[1], long[0]))
}

// TestUniqueOfNearlyAlike has states that might be taken for each other.
func TestUniqueOfNearlyAlike(t *testing.T) {
	l := list(nil, []int{0}, []int{0, 0}, []int{0, 1}, []int{1, 0}, []int{1, 2}, []int{2, 1}, []int{0, 0, 0})
	unique(t, slices.Concat(l, l), l)
	unique(t, ones(1<<32+1, 1, 1<<8+1, 1), ones(1, 1<<8+1, 1<<32+1))
}

func TestUniqueOfMany(t *testing.T) {
	l := slices.Concat(many(5000), many(9000), slices.Repeat(ones(7), 200000))
	got := lin.Unique(l)
	if len(got) != 9000 {
		t.Errorf("%d states", len(got))
	}
	for i := 1; i < len(got); i++ {
		if model.Text(got[i-1]) >= model.Text(got[i]) {
			t.Errorf("%v stands ahead of %v", got[i-1], got[i])
		}
	}
}

// P15.2

// TestSearch has the chapter's example, and that of the whole document.
func TestSearch(t *testing.T) {
	search(t, []api.Op{write(1, 1, 4), read(0, 3, 6)}, ones(0), ones(1), 4)
	search(t, []api.Op{write(1, 1, 4), read(2, 3, 6)}, ones(0), nil, 2)
	search(t, []api.Op{write(1, 1, 4), read(1, 3, 6)}, ones(0), ones(1), 3)
	search(t, []api.Op{enq(5, 0, 9), enq(6, 1, 8), deq(6, 10, 12)}, list(nil), ones(5), 6)
	search(t, []api.Op{enq(5, 0, 9), enq(6, 1, 8), deq(7, 10, 12)}, list(nil), nil, 5)
	search(t, []api.Op{enq(5, 0, 9), enq(6, 1, 8)}, list(nil), list([]int{5, 6}, []int{6, 5}), 5)
}

func TestSearchOfNoOperations(t *testing.T) {
	search(t, nil, nil, nil, 0)
	search(t, []api.Op{}, [][]int{}, nil, 0)
	search(t, nil, list(nil), list(nil), 1)
	search(t, nil, list([]int{2}, nil, []int{3, 1}, []int{2}), list(nil, []int{2}, []int{3, 1}), 3)
}

func TestSearchOfNoEntries(t *testing.T) {
	search(t, []api.Op{write(1, 1, 4), read(1, 3, 6)}, nil, nil, 0)
	search(t, make([]api.Op, 16), [][]int{}, nil, 0)
}

// TestSearchStepsByTimes has an operation that is answered just ahead of, and just when, the next one is invoked.
func TestSearchStepsByTimes(t *testing.T) {
	for _, at := range []int{2, 1 << 31, 1 << 32, 1<<40 - 2} {
		search(t, []api.Op{enq(1, at-1, at), enq(2, at+1, at+2)}, list(nil), list([]int{1, 2}), 3)
		search(t, []api.Op{enq(1, at-1, at), enq(2, at, at+2)}, list(nil), list([]int{1, 2}, []int{2, 1}), 5)
		search(t, []api.Op{enq(2, at+1, at+2), enq(1, at-1, at)}, list(nil), list([]int{1, 2}), 3)
	}
}

// TestSearchStepsBehindAll has operations that are to wait for one that is no neighbour, and for several.
func TestSearchStepsBehindAll(t *testing.T) {
	// 3 is behind 1 alone, 4 behind 1 and 3; 2 lasts.
	l := []api.Op{enq(1, 1, 2), enq(2, 1, 50), enq(3, 3, 4), enq(4, 5, 6)}
	exits := list([]int{1, 2, 3, 4}, []int{1, 3, 2, 4}, []int{1, 3, 4, 2}, []int{2, 1, 3, 4})
	search(t, l, list(nil), exits, 14)
	// The last two wait for both of the others.
	search(t, []api.Op{enq(1, 1, 5), enq(2, 2, 6), deq(2, 7, 9), deq(1, 7, 8)}, list(nil), list(nil), 8)
}

// TestSearchOfAChain has as many operations as may be: one order is left.
func TestSearchOfAChain(t *testing.T) {
	var l []api.Op
	var all []int
	for n := range 16 {
		l, all = append(l, enq(n, 2*n, 2*n+1)), append(all, n)
		search(t, l, list(nil), list(all), n+2)
		turned := slices.Clone(l)
		slices.Reverse(turned)
		search(t, turned, list(nil), list(all), n+2)
	}
	l[15].Result = 3
	search(t, l, list(nil), nil, 16)
	l[0].Result = 3
	search(t, l, list(nil), nil, 1)
}

// TestSearchOfWhatHasNoAnswer has operations that may be done, or not, with any answer, and that nothing waits for.
func TestSearchOfWhatHasNoAnswer(t *testing.T) {
	w, r := pending(api.Register, api.Write, 1, 5), pending(api.Register, api.Read, 0, 5)
	search(t, []api.Op{w}, ones(0), ones(0, 1), 2)
	search(t, []api.Op{r}, ones(0), ones(0), 2)
	search(t, []api.Op{w, read(0, 90, 91)}, ones(0), ones(0, 1), 4)
	search(t, []api.Op{w, read(1, 90, 91)}, ones(0), ones(1), 3)
	search(t, []api.Op{read(1, 1, 5), w}, ones(0), ones(1), 3)
	search(t, []api.Op{read(1, 1, 4), w}, ones(0), nil, 1)
	search(t, []api.Op{write(2, 1, 4), w}, ones(0), ones(1, 2), 3)
	search(t, []api.Op{w, w}, ones(0), ones(0, 1), 4)
	// What has no answer waits for what was answered ahead of it, even if that can't be done.
	search(t, []api.Op{read(3, 1, 4), w, w}, ones(0), nil, 1)
	// A Return of what isn't Done is none, nor is a Result.
	w.Return, w.Result = 6, 9
	search(t, []api.Op{w, read(0, 90, 91)}, ones(0), ones(0, 1), 4)
}

// TestSearchOfLocks has operations that can't be done from every state: none is a step of its own.
func TestSearchOfLocks(t *testing.T) {
	of := func(proc int, o api.Op) api.Op {
		o.Proc = proc
		return o
	}
	lock, unlock := done(api.Mutex, api.Lock, 0, 0, 1, 9), done(api.Mutex, api.Unlock, 0, 0, 1, 9)
	search(t, []api.Op{of(1, lock), of(2, lock)}, list(nil), nil, 3)
	search(t, []api.Op{of(1, lock), of(2, lock), of(1, unlock)}, list(nil), ones(2), 5)
	search(t, []api.Op{of(1, lock), of(2, lock), of(1, unlock)}, ones(1), nil, 4)
	search(t, []api.Op{of(2, lock), of(1, unlock)}, list(nil, []int{1}), ones(2), 5)
	search(t, []api.Op{of(3, pending(api.Mutex, api.Lock, 0, 0)), of(3, unlock)}, list(nil), list(nil), 3)
}

func TestSearchOfEachKind(t *testing.T) {
	for _, c := range []struct {
		first, second  api.Op
		entries, exits [][]int
		count          int
	}{
		{write(4, 1, 4), read(4, 3, 6), ones(0), ones(4), 3},
		{write(4, 1, 4), done(api.Register, api.Cas, 4, 1, 3, 6), ones(4), ones(0, 4), 5},
		{done(api.Counter, api.Inc, 0, 0, 1, 4), done(api.Counter, api.Read, 0, 4, 3, 6), ones(4), ones(5), 4},
		{done(api.Counter, api.Inc, 0, 0, 1, 4), done(api.Counter, api.Dec, 0, 0, 3, 6), ones(0, 5), ones(0, 5), 8},
		{enq(4, 1, 4), deq(4, 3, 6), list(nil, []int{4}), list(nil, []int{4}), 7},
		{done(api.Stack, api.Push, 4, 0, 1, 4), done(api.Stack, api.Pop, 0, 4, 3, 6), list(nil, []int{5}), list(nil, []int{5}), 6},
		{done(api.Stack, api.Push, 4, 0, 1, 4), done(api.Stack, api.Pop, 0, -1, 3, 6), list(nil, []int{5}), ones(4), 6},
		{done(api.Set, api.Remove, 4, 1, 1, 4), done(api.Set, api.Add, 4, 1, 3, 6), list(nil, []int{4}), list(nil, []int{4}), 6},
		{done(api.Set, api.Add, 4, 1, 1, 4), done(api.Set, api.Has, 4, 0, 3, 6), list(nil, []int{4}), ones(4), 5},
	} {
		search(t, []api.Op{c.first, c.second}, c.entries, c.exits, c.count)
		search(t, []api.Op{c.second, c.first}, c.entries, c.exits, c.count)
	}
}

// TestSearchOfWhatCanNeverBeDone has kinds and methods that are none, and entries that are states of another kind.
func TestSearchOfWhatCanNeverBeDone(t *testing.T) {
	var zero api.Op
	search(t, []api.Op{zero, zero}, list(nil, []int{3}), list(nil, []int{3}), 2)
	zero.Done, zero.Return = true, 5
	search(t, []api.Op{zero}, list(nil, []int{3}), nil, 2)
	search(t, []api.Op{write(1, 1, 4)}, list(nil, []int{3}, []int{3, 3}), ones(1), 4)
	search(t, []api.Op{pending(api.Register, api.Enq, 1, 4), write(1, 1, 4)}, ones(0), ones(1), 2)
	search(t, []api.Op{pending(api.Set, api.Add, 1, 4)}, list([]int{2, 1}), list([]int{2, 1}), 1)
	search(t, []api.Op{pending(7, 1, 1, 4), pending(-1, 1, 1, 4), pending(1, -1, 1, 4)}, ones(0), ones(0), 1)
}

// TestSearchOfSeveralKinds has operations of other kinds than the segment's: what counts is which steps model.Step does.
func TestSearchOfSeveralKinds(t *testing.T) {
	l := []api.Op{done(api.Stack, api.Push, 4, 0, 1, 9), done(api.Counter, api.Inc, 0, 0, 1, 9), deq(5, 2, 9)}
	for object := range 3 {
		for kind := range 8 {
			s := api.Segment{Object: object, Kind: kind, Ops: l}
			x, e := lin.Search(s, list(nil), 100)
			if want := (api.Summary{Entries: list(nil), Exits: list(nil), Count: 4}); e != api.OK || !same(x, want) {
				t.Errorf("Search(%+v) = %v, %d, not %v", s, x, e, want)
			}
		}
	}
}

// TestSearchByPlaces has operations that are alike in number, or in all: each is one of its own.
func TestSearchByPlaces(t *testing.T) {
	o := done(api.Counter, api.Inc, 0, 0, 1, 9)
	var l []api.Op
	for size := 1; size <= 12; size++ {
		l = append(l, o)
		search(t, l, ones(0), ones(size), 1<<size)
	}
	w, r := write(1, 1, 4), read(1, 3, 6)
	for _, ids := range [][2]int{{1, 2}, {2, 1}, {7, 7}, {0, 0}, {-5, 1 << 40}} {
		w.ID, r.ID = ids[0], ids[1]
		w.Object, r.Proc = ids[1], ids[0]
		search(t, []api.Op{w, r}, ones(0), ones(1), 3)
		search(t, []api.Op{r, w}, ones(0), ones(1), 3)
	}
}

// TestSearchOfWhatIsBeforeItself has answers ahead of the invocation: what is before itself is never among those done.
func TestSearchOfWhatIsBeforeItself(t *testing.T) {
	w := write(1, 5, 4)
	search(t, []api.Op{w}, ones(0), nil, 1)
	search(t, []api.Op{w, read(0, 3, 9)}, ones(0), nil, 2)
	search(t, []api.Op{w, read(0, 5, 9)}, ones(0), nil, 1)
	search(t, []api.Op{w, pending(api.Register, api.Write, 3, 4)}, ones(0), nil, 2)
	w.Return = 5
	search(t, []api.Op{w}, ones(0), ones(1), 2)
	// Without an answer it is before nothing.
	w.Done, w.Return = false, 4
	search(t, []api.Op{w}, ones(0), ones(0, 1), 2)
	low, high := write(1, math.MinInt, math.MaxInt-1), write(2, math.MaxInt, math.MaxInt)
	search(t, []api.Op{high, low}, ones(0), ones(2), 3)
	low.Return++
	search(t, []api.Op{high, low}, ones(0), ones(1, 2), 5)
}

func TestSearchOfTooManyOperations(t *testing.T) {
	for _, size := range []int{17, 18, 31, 32, 33, 64, 65, 256, 1 << 16, 1<<16 + 1} {
		for _, budget := range []int{math.MinInt, -1, 0, 1, 100, 1 << 15, math.MaxInt} {
			for _, entries := range [][][]int{nil, list(nil), ones(1, 2), many(5)} {
				refused(t, make([]api.Op, size), entries, budget, api.ErrMany)
			}
		}
	}
	refused(t, make([]api.Op, 17), many(1<<15+1), 1<<15, api.ErrMany)
	search(t, make([]api.Op, 16), list(nil), list(nil), 1)
}

// TestSearchOfTheGreatestBudget has just as many spots as any budget is enough for, and one more.
func TestSearchOfTheGreatestBudget(t *testing.T) {
	l := slices.Repeat([]api.Op{pending(api.Register, api.Read, 0, 5)}, 15)
	search(t, l, ones(3), ones(3), 1<<15)
	for _, budget := range []int{1 << 15, 1<<15 + 1, 1 << 32, math.MaxInt} {
		// No step leads from a register of no number: it is one spot more.
		refused(t, l, list([]int{3}, nil), budget, api.ErrBudget)
		refused(t, append(slices.Clone(l), l[0]), ones(3), budget, api.ErrBudget)
		refused(t, append(slices.Clone(l), read(3, 1, 4)), ones(3), budget, api.ErrBudget)
		refused(t, nil, many(1<<15+1), budget, api.ErrBudget)
		refused(t, nil, many(1<<17), budget, api.ErrBudget)
	}
	search(t, nil, many(1<<15), lin.Unique(many(1<<15)), 1<<15)
	search(t, nil, slices.Repeat(ones(7, 8, 9), 1<<16), ones(7, 8, 9), 3)
}

// TestSearchBeyondTheBudget has many more spots than any budget is enough for: the search ends in time.
func TestSearchBeyondTheBudget(t *testing.T) {
	var l []api.Op
	for n := range 16 {
		l = append(l, enq(n, 1, 9))
	}
	refused(t, l, list(nil), math.MaxInt, api.ErrBudget)
	refused(t, l, many(1<<15), math.MaxInt, api.ErrBudget)
	search(t, l[:6], list(nil), orders(6), 1957)
}

// orders are the orders of the numbers below size, rising.
func orders(size int) [][]int {
	l := [][]int{nil}
	for range size {
		var longer [][]int
		for _, x := range l {
			for n := range size {
				if !slices.Contains(x, n) {
					longer = append(longer, append(slices.Clone(x), n))
				}
			}
		}
		l = longer
	}
	return l
}

// TestSearchOfLongStates would take long, if steps from a state were done for each spot that has it.
func TestSearchOfLongStates(t *testing.T) {
	var long []int
	for n := range 20000 {
		long = append(long, n)
	}
	has := slices.Repeat([]api.Op{pending(api.Set, api.Has, 7, 5)}, 15)
	search(t, has, list(long), list(long), 1<<15)
	var exits [][]int
	for n := range 16 {
		exits = append(exits, long[n:])
	}
	search(t, slices.Repeat([]api.Op{pending(api.Queue, api.Deq, 0, 5)}, 15), list(long), lin.Unique(exits), 1<<15)
}

// Rules that hold everywhere

// states are lists of states with spare room in each, and behind them.
func states(l [][]int) ([][]int, [][]int) {
	all := make([][]int, len(l)+3)
	for i := range all {
		all[i] = []int{77, 77, 77}
	}
	for i, state := range l {
		all[i] = append(append(make([]int, 0, len(state)+3), state...), 77)[:len(state)]
	}
	return all[:len(l)], all
}

// deep is states in memory of their own, with what stands in their spare room.
func deep(l [][]int) [][]int {
	own := make([][]int, len(l))
	for i, state := range l {
		own[i] = slices.Clone(state[:cap(state)])
	}
	return own
}

// spoil writes into all that states have, their spare room too.
func spoil(l [][]int) {
	l = l[:cap(l)]
	for i, state := range l {
		state = state[:cap(state)]
		for j := range state {
			state[j] = -55
		}
		l[i] = nil
	}
}

// grow puts a number behind those of each state.
func grow(l [][]int) {
	for i := range l {
		l[i] = append(l[i], -66)
	}
}

func TestUniqueSharesNothing(t *testing.T) {
	for _, l := range [][][]int{nil, list(nil), ones(1), ones(3, 2, 3), list([]int{1, 2}, []int{1}, nil, []int{1, 2}), many(20)} {
		given, all := states(l)
		before := deep(all)
		first, second := lin.Unique(given), lin.Unique(given)
		want := lin.Unique(l)
		grow(first)
		for i := range first {
			if !slices.Equal(first[i][:len(first[i])-1], want[i]) {
				t.Errorf("two states of Unique(%v) share memory", l)
			}
		}
		spoil(first)
		if !alike(deep(all), before) {
			t.Errorf("Unique(%v) changes, or shares, what it is given", l)
		}
		spoil(all)
		if !alike(second, want) {
			t.Errorf("Unique(%v) is %v once what it was given, or another answer, is written over", l, second)
		}
	}
}

func TestSearchSharesNothing(t *testing.T) {
	inc := pending(api.Counter, api.Inc, 0, 5)
	for _, ops := range [][]api.Op{nil, {inc}, {inc, inc, done(api.Counter, api.Read, 0, 2, 1, 9)}, {pending(api.Set, api.Has, 1, 2), pending(api.Queue, api.Deq, 0, 3)}} {
		for _, entries := range [][][]int{nil, list(nil), ones(1), ones(2, 1, 0, 1, 2), list([]int{1, 2}, []int{2})} {
			given, all := states(entries)
			before := deep(all)
			room := append(append(make([]api.Op, 0, len(ops)+3), ops...), api.Op{ID: 77}, api.Op{ID: 77}, api.Op{ID: 77})
			old := slices.Clone(room)
			s := api.Segment{Object: 1, Kind: 2, Ops: room[:len(ops)]}
			first, _ := lin.Search(s, given, 99)
			second, _ := lin.Search(s, given, 99)
			want, _ := lin.Search(api.Segment{Ops: ops}, entries, 99)
			if !same(first, want) || !same(second, want) {
				t.Errorf("Search(%+v, %v) = %v, or %v, not %v", ops, entries, first, second, want)
			}
			grow(first.Entries)
			grow(first.Exits)
			spoil(first.Entries)
			for i, state := range first.Exits {
				if !slices.Equal(state[:len(state)-1], want.Exits[i]) {
					t.Errorf("two states of Search(%+v, %v) share memory", ops, entries)
				}
			}
			spoil(first.Exits)
			if !alike(deep(all), before) || !slices.Equal(room, old) {
				t.Errorf("Search(%+v, %v) changes, or shares, what it is given", ops, entries)
			}
			spoil(all)
			clear(room)
			if !same(second, want) {
				t.Errorf("Search(%+v, %v) is %v once what it was given, or another answer, is written over", ops, entries, second)
			}
		}
	}
}

package order_test

import (
	"math/rand"
	"slices"
	"testing"

	"annalist/api"
	"annalist/cut"
	"annalist/lin"
	"annalist/model"
	"annalist/op"
	"annalist/order"
)

// picks are all orders of some of the numbers below size, least first, and of those of which one begins with the other one, the shorter one first.
func picks(size int) [][]int {
	var all [][]int
	var pick func(l []int)
	pick = func(l []int) {
		all = append(all, l)
		for n := range size {
			if !slices.Contains(l, n) {
				pick(append(slices.Clone(l), n))
			}
		}
	}
	pick(nil)
	return all
}

// isOrder tells whether an order has all Done operations, none behind one that it is before, and runs.
func isOrder(s api.Segment, places []int) bool {
	var l []api.Op
	for at, i := range places {
		l = append(l, s.Ops[i])
		for _, j := range places[:at] {
			if op.Before(s.Ops[i], s.Ops[j]) {
				return false
			}
		}
	}
	for i, o := range s.Ops {
		if o.Done && !slices.Contains(places, i) {
			return false
		}
	}
	_, ok := model.Runs(model.First(s.Kind), l)
	return ok
}

// ids are the IDs of the operations of some places.
func ids(l []api.Op, places []int) []int {
	var out []int
	for _, i := range places {
		out = append(out, l[i].ID)
	}
	return out
}

// searched searches operations, segment by segment: how many spots there are, and the exits of the last one; the state itself of none.
func searched(t *testing.T, l []api.Op, state []int) (int, [][]int) {
	t.Helper()
	spots, states := 0, [][]int{state}
	for _, s := range cut.Segments(api.Segment{Ops: l}) {
		x, e := lin.Search(s, states, api.MaxBudget)
		if e != api.OK {
			t.Fatalf("Search(%+v): error %d", s, e)
		}
		spots, states = spots+x.Count, x.Exits
	}
	return spots, states
}

// greedy is the least order found another way: each time the least ID is taken that leaves something that can be explained.
func greedy(t *testing.T, s api.Segment) ([]int, bool) {
	t.Helper()
	left, state := slices.Clone(s.Ops), model.First(s.Kind)
	slices.SortFunc(left, func(a, b api.Op) int { return a.ID - b.ID })
	if _, exits := searched(t, left, state); len(exits) == 0 {
		return nil, false
	}
	var l []int
	for slices.ContainsFunc(left, func(o api.Op) bool { return o.Done }) {
		for i, o := range left {
			others := slices.Delete(slices.Clone(left), i, i+1)
			next, ok := model.Step(state, o)
			if !ok || slices.ContainsFunc(others, func(other api.Op) bool { return op.Before(other, o) }) {
				continue
			}
			if _, exits := searched(t, others, next); len(exits) > 0 {
				l, left, state = append(l, o.ID), others, next
				break
			}
		}
	}
	return l, true
}

// source makes objects by chance.
type source struct {
	*rand.Rand
}

// label is a method of a kind, with small arguments, so that they meet.
func (r source) label(kind int) api.Op {
	methods := [][]int{
		api.Register: {api.Read, api.Write, api.Cas}, api.Counter: {api.Read, api.Inc, api.Dec}, api.Queue: {api.Enq, api.Deq},
		api.Stack: {api.Push, api.Pop}, api.Set: {api.Add, api.Remove, api.Has}, api.Mutex: {api.Lock, api.Unlock},
	}[kind]
	return api.Op{Kind: kind, Method: methods[r.Intn(len(methods))], Proc: r.Intn(3), Arg: r.Intn(3), Second: r.Intn(3)}
}

// object is operations of a kind that an order explains, but for a few answers that are changed; their IDs stand anyhow.
func (r source) object(kind, size, long, wrong int) api.Segment {
	s, state := api.Segment{Object: r.Intn(5), Kind: kind}, model.First(kind)
	numbers := r.Perm(3 * size)
	for len(s.Ops) < size {
		o := r.label(kind)
		next, answer, ok := model.Do(state, o)
		if !ok && r.Intn(4) > 0 {
			continue
		}
		if ok {
			state = next
		}
		at := 10 * len(s.Ops)
		o.ID, o.Done, o.Result = 1+numbers[len(s.Ops)], true, answer
		o.Invoke, o.Return = at-r.Intn(long), at+1+r.Intn(long)
		switch x := r.Intn(100); {
		case x < wrong:
			o.Result = r.Intn(4) - 1
		case x > 95 || x > 80 && len(s.Ops) > size-4:
			o.Done, o.Result, o.Return = false, 0, 0
		}
		s.Ops = append(s.Ops, o)
	}
	r.Shuffle(size, func(i, j int) { s.Ops[i], s.Ops[j] = s.Ops[j], s.Ops[i] })
	return s
}

// fits tells whether an object's segments may be searched, and have not more spots than may be.
func fits(s api.Segment) bool {
	spots, states := 0, [][]int{model.First(s.Kind)}
	for _, piece := range cut.Segments(s) {
		x, e := lin.Search(piece, states, api.MaxBudget)
		if e != api.OK {
			return false
		}
		spots, states = spots+x.Count, x.Exits
	}
	return spots <= api.MaxBudget
}

// P16.1, P16.2

// TestAllOrdersByChance holds small objects against all orders of some of their operations.
func TestAllOrdersByChance(t *testing.T) {
	r := source{rand.New(rand.NewSource(1601))}
	with, without, several, left := 0, 0, 0, 0
	for i := range 3000 {
		size := r.Intn(6)
		if i%50 == 0 {
			size = 6
		}
		s := r.object(1+i%6, size, 1+r.Intn(40), 8)
		slices.SortFunc(s.Ops, func(a, b api.Op) int { return a.ID - b.ID })
		sorted := slices.Clone(s.Ops)
		r.Shuffle(size, func(i, j int) { s.Ops[i], s.Ops[j] = s.Ops[j], s.Ops[i] })
		var orders [][]int
		for _, places := range picks(size) {
			want := isOrder(api.Segment{Kind: s.Kind, Ops: sorted}, places)
			if want {
				orders = append(orders, ids(sorted, places))
			}
			if l := ids(sorted, places); order.Valid(s, l) != want {
				t.Errorf("Valid(%+v, %v) isn't %v", s, l, want)
			}
		}
		if len(orders) == 0 {
			never(t, s)
			without++
			continue
		}
		least(t, s, orders[0])
		with++
		if len(orders) > 1 {
			several++
		}
		if len(orders[0]) < size {
			left++
		}
	}
	if with < 1500 || without < 300 || several < 500 || left < 200 {
		t.Errorf("%d objects have orders, %d several, %d have none, %d orders leave something out", with, several, without, left)
	}
}

// TestValidOfAnyIDsByChance has IDs twice, and of no operation; and operations alike.
func TestValidOfAnyIDsByChance(t *testing.T) {
	r := source{rand.New(rand.NewSource(1611))}
	count, twice := 0, 0
	for i := range 60000 {
		s := r.object(1+i%6, r.Intn(4), 1+r.Intn(40), 8)
		for at := range s.Ops {
			s.Ops[at].ID = r.Intn(4)
		}
		var l []int
		for range r.Intn(5) {
			l = append(l, r.Intn(5))
		}
		first := api.Segment{Kind: s.Kind}
		for at, o := range s.Ops {
			if !slices.ContainsFunc(s.Ops[:at], func(x api.Op) bool { return x.ID == o.ID }) {
				first.Ops = append(first.Ops, o)
			}
		}
		want := true
		var places []int
		for _, id := range l {
			at := slices.IndexFunc(first.Ops, func(o api.Op) bool { return o.ID == id })
			want = want && at >= 0 && !slices.Contains(places, at)
			places = append(places, at)
		}
		want = want && isOrder(first, places)
		if order.Valid(s, l) != want {
			t.Errorf("Valid(%+v, %v) isn't %v", s, l, want)
		}
		if want {
			count++
			if len(first.Ops) < len(s.Ops) {
				twice++
			}
		}
	}
	if count < 4000 || twice < 500 {
		t.Errorf("only %d are orders, %d of operations of one ID", count, twice)
	}
}

// P16.2, P16.3

// TestLeastByChance holds objects of many segments against what searches of segments say.
func TestLeastByChance(t *testing.T) {
	r := source{rand.New(rand.NewSource(1603))}
	with, without, long, short := 0, 0, 0, 0
	for i := range 1500 {
		s := r.object(1+i%6, r.Intn(40), 1+r.Intn(18), r.Intn(4))
		if !fits(s) {
			continue
		}
		want, there := greedy(t, s)
		spots := enough(t, s)
		for _, budget := range []int{spots, spots + 1, api.MaxBudget, 1 << 40} {
			if l, ok, e := order.Least(s, budget); e != api.OK || ok != there || !slices.Equal(l, want) {
				t.Errorf("Least(%+v, %d) = %v, %v, %d, not %v", s, budget, l, ok, e, want)
			}
		}
		if there {
			valid(t, s, want)
			with++
		} else {
			without++
		}
		for range 4 {
			budget := r.Intn(spots + 1)
			cutShort(t, s, budget, want, there)
			if _, _, e := order.Least(s, budget); e == api.ErrBudget {
				short++
			}
		}
		if there && len(cut.Segments(s)) > 4 {
			long++
		}
	}
	if with < 500 || without < 150 || long < 300 || short < 500 {
		t.Errorf("%d objects have orders, %d of them of many segments, %d have none; %d budgets were too little", with, long, without, short)
	}
}

// TestNoOtherOrderIsLess swaps, leaves out and puts in: what is an order, too, is not less.
func TestNoOtherOrderIsLess(t *testing.T) {
	r := source{rand.New(rand.NewSource(1613))}
	others := 0
	for i := range 3000 {
		s := r.object(1+i%6, 1+r.Intn(20), 1+r.Intn(25), 0)
		if !fits(s) {
			continue
		}
		l, ok, _ := order.Least(s, api.MaxBudget)
		if !ok || len(l) == 0 {
			continue
		}
		for range 30 {
			other, a, b := slices.Clone(l), r.Intn(len(l)), r.Intn(len(l))
			switch r.Intn(4) {
			case 0:
				other = slices.Delete(other, a, a+1)
			case 1:
				other = slices.Insert(other, a, s.Ops[r.Intn(len(s.Ops))].ID)
			default:
				other[a], other[b] = other[b], other[a]
			}
			if order.Valid(s, other) && !slices.Equal(l, other) {
				others++
				if slices.Compare(other, l) < 0 {
					t.Errorf("Least(%+v) = %v, but %v is an order", s, l, other)
				}
			}
		}
	}
	if others < 2000 {
		t.Errorf("only %d other orders", others)
	}
}

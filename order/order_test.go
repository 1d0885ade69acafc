package order_test

import (
	"math"
	"slices"
	"testing"

	"annalist/api"
	"annalist/lin"
	"annalist/model"
	"annalist/order"
)

// done is an operation of a kind with an answer.
func done(id, kind, method, arg, result, from, to int) api.Op {
	return api.Op{ID: id, Kind: kind, Method: method, Arg: arg, Done: true, Result: result, Invoke: from, Return: to}
}

// pending is one without an answer.
func pending(id, kind, method, arg, from int) api.Op {
	return api.Op{ID: id, Kind: kind, Method: method, Arg: arg, Invoke: from}
}

func read(id, result, from, to int) api.Op {
	return done(id, api.Register, api.Read, 0, result, from, to)
}

func write(id, arg, from, to int) api.Op {
	return done(id, api.Register, api.Write, arg, 0, from, to)
}

func enq(id, arg, from, to int) api.Op { return done(id, api.Queue, api.Enq, arg, 0, from, to) }

func deq(id, result, from, to int) api.Op { return done(id, api.Queue, api.Deq, 0, result, from, to) }

func inc(id, from, to int) api.Op { return done(id, api.Counter, api.Inc, 0, 0, from, to) }

func count(id, result, from, to int) api.Op {
	return done(id, api.Counter, api.Read, 0, result, from, to)
}

// of is an object of the kind of its first operation.
func of(l ...api.Op) api.Segment {
	if len(l) == 0 {
		return api.Segment{Object: 1, Kind: api.Queue}
	}
	return api.Segment{Object: 1, Kind: l[0].Kind, Ops: l}
}

// valid tells that lists of IDs are orders of an object's operations.
func valid(t *testing.T, s api.Segment, lists ...[]int) {
	t.Helper()
	for _, ids := range lists {
		if !order.Valid(s, ids) {
			t.Errorf("Valid(%+v, %v) = false", s, ids)
		}
	}
}

// invalid tells that they are none.
func invalid(t *testing.T, s api.Segment, lists ...[]int) {
	t.Helper()
	for _, ids := range lists {
		if order.Valid(s, ids) {
			t.Errorf("Valid(%+v, %v) = true", s, ids)
		}
	}
}

// P16.1

func TestValid(t *testing.T) {
	s := of(write(5, 1, 2, 6), read(9, 0, 4, 8))
	valid(t, s, []int{9, 5})
	invalid(t, s, []int{5, 9}, []int{9}, []int{5}, nil, []int{})
}

func TestValidHasEachIDOnce(t *testing.T) {
	s := of(read(5, 0, 2, 6), read(9, 0, 4, 8), pending(3, api.Register, api.Read, 0, 1))
	valid(t, s, []int{5, 9}, []int{9, 5}, []int{3, 5, 9}, []int{5, 3, 9}, []int{9, 5, 3})
	invalid(t, s, []int{5, 9, 9}, []int{5, 5, 9}, []int{9, 5, 9}, []int{3, 3, 5, 9}, []int{3, 5, 9, 3}, []int{5, 5}, []int{9, 9})
}

func TestValidOfOtherIDs(t *testing.T) {
	s := of(read(5, 0, 2, 6), read(9, 0, 4, 8))
	invalid(t, s, []int{5, 9, 7}, []int{7, 5, 9}, []int{5, 0, 9}, []int{5, 9, 0}, []int{5, 9, -5}, []int{0, 1}, []int{5, 9 + 1<<32}, []int{math.MaxInt, math.MinInt})
}

func TestValidLacksNothingDone(t *testing.T) {
	s := of(inc(1, 2, 6), pending(2, api.Counter, api.Inc, 0, 3), inc(3, 4, 8), pending(4, api.Counter, api.Dec, 0, 4))
	valid(t, s, []int{1, 3}, []int{3, 1}, []int{1, 2, 3}, []int{1, 3, 4}, []int{4, 3, 2, 1})
	invalid(t, s, nil, []int{1}, []int{3}, []int{1, 2}, []int{2, 4}, []int{2, 3, 4}, []int{1, 4, 2})
}

func TestValidOfNoOperations(t *testing.T) {
	for kind := -1; kind <= api.Kinds+1; kind++ {
		s := api.Segment{Kind: kind}
		valid(t, s, nil, []int{})
		invalid(t, s, []int{0}, []int{1})
	}
	s := of(pending(4, api.Queue, api.Deq, 0, 3), pending(2, api.Queue, api.Enq, 5, 9))
	valid(t, s, nil, []int{4}, []int{2}, []int{2, 4}, []int{4, 2})
	invalid(t, s, []int{0}, []int{4, 4}, []int{2, 4, 3})
}

// TestValidByTimes has operations that follow each other, that touch, and that overlap.
func TestValidByTimes(t *testing.T) {
	for to, both := range map[int]bool{3: false, 4: false, 5: true, 6: true, 99: true} {
		s := of(read(2, 0, 1, to), read(1, 0, 5, 9))
		valid(t, s, []int{2, 1})
		if order.Valid(s, []int{1, 2}) != both {
			t.Errorf("Valid(%+v, [1 2]) = %v", s, !both)
		}
	}
	s := of(read(2, 0, 1, 4), pending(1, api.Register, api.Read, 0, 5), pending(3, api.Register, api.Write, 7, 0))
	valid(t, s, []int{2}, []int{2, 1}, []int{2, 1, 3}, []int{2, 3}, []int{2, 3, 1})
	invalid(t, s, []int{1, 2}, []int{1}, []int{3}, []int{1, 2, 3}, []int{3, 2})
}

// TestValidByTimesOfFarOnes has operations behind one that they are before, with others between.
func TestValidByTimesOfFarOnes(t *testing.T) {
	s := of(inc(1, 1, 3), inc(2, 2, 30), inc(3, 2, 30), inc(4, 4, 30), inc(5, 1, 30))
	valid(t, s, []int{1, 2, 3, 4, 5}, []int{5, 3, 2, 1, 4}, []int{1, 4, 2, 3, 5}, []int{5, 1, 4, 3, 2})
	invalid(t, s, []int{4, 1, 2, 3, 5}, []int{4, 2, 3, 5, 1}, []int{2, 4, 3, 5, 1}, []int{5, 2, 3, 4, 1})
	// Of those ahead of 9 it is neither the first nor the last that 9 is before.
	s = of(inc(9, 1, 5), inc(1, 2, 30), inc(2, 6, 30), inc(3, 3, 30))
	valid(t, s, []int{9, 1, 2, 3}, []int{1, 3, 9, 2}, []int{3, 1, 9, 2})
	invalid(t, s, []int{1, 2, 3, 9}, []int{3, 2, 1, 9}, []int{2, 1, 3, 9}, []int{1, 3, 2, 9}, []int{1, 2, 9, 3})
}

func TestValidByTheSteps(t *testing.T) {
	s := of(enq(1, 5, 0, 20), enq(2, 6, 1, 20), deq(3, 6, 2, 20), deq(4, -1, 3, 20), pending(5, api.Queue, api.Deq, 0, 4))
	valid(t, s, []int{4, 2, 1, 3}, []int{2, 3, 4, 1}, []int{1, 5, 2, 3, 4}, []int{1, 5, 4, 2, 3})
	invalid(t, s, []int{1, 2, 3, 4}, []int{2, 1, 3, 4}, []int{2, 3, 1, 4}, []int{1, 5, 2, 4, 3}, []int{1, 2, 5, 4, 3})
	s.Ops[4].Done, s.Ops[4].Return, s.Ops[4].Result = true, 20, 6
	invalid(t, s, []int{1, 5, 2, 3, 4}, []int{5, 4, 1, 2, 3}, []int{2, 5, 1, 3, 4})
}

// TestValidOfEachKind has, of each kind, an order that runs, and one that doesn't.
func TestValidOfEachKind(t *testing.T) {
	lock, unlock := pending(1, api.Mutex, api.Lock, 0, 0), done(2, api.Mutex, api.Unlock, 0, 0, 0, 9)
	cas := done(2, api.Register, api.Cas, 3, 1, 0, 9)
	cas.Second = 4
	for _, s := range []api.Segment{
		of(write(1, 3, 0, 9), cas),
		of(inc(1, 0, 9), count(2, 1, 0, 9)),
		of(enq(1, 4, 0, 9), deq(2, 4, 0, 9)),
		of(done(1, api.Stack, api.Push, 4, 0, 0, 9), done(2, api.Stack, api.Pop, 0, 4, 0, 9)),
		of(done(1, api.Set, api.Add, 4, 1, 0, 9), done(2, api.Set, api.Remove, 4, 1, 0, 9)),
		of(lock, unlock),
	} {
		valid(t, s, []int{1, 2})
		invalid(t, s, []int{2, 1}, []int{2}, []int{1})
		least(t, s, []int{1, 2})
	}
}

// TestValidFromTheKindsFirst has operations that hang on where the object begins.
func TestValidFromTheKindsFirst(t *testing.T) {
	for kind := -1; kind <= api.Kinds+1; kind++ {
		ones, empty := api.Segment{Kind: kind, Ops: []api.Op{read(1, 0, 0, 9)}}, api.Segment{Kind: kind, Ops: []api.Op{deq(1, -1, 0, 9)}}
		if kind == api.Register || kind == api.Counter {
			valid(t, ones, []int{1})
			least(t, ones, []int{1})
			// A Deq takes the 0 that such an object begins with.
			invalid(t, empty, []int{1})
			never(t, empty)
		} else {
			invalid(t, ones, []int{1})
			never(t, ones)
			valid(t, empty, []int{1})
			least(t, empty, []int{1})
		}
	}
}

func TestValidCountsTheFirstOfAnID(t *testing.T) {
	s := of(read(5, 0, 2, 6), write(5, 1, 0, 1), read(9, 0, 4, 8), read(9, 3, 4, 8), read(5, 2, 2, 6))
	valid(t, s, []int{5, 9}, []int{9, 5})
	invalid(t, s, []int{5, 9, 5}, []int{5, 5, 9}, []int{5, 5, 9, 9, 5}, []int{5}, []int{9})
	// The first of 5 has an answer, and the second none; then the other way round.
	s = of(read(5, 0, 2, 6), pending(5, api.Register, api.Read, 0, 1))
	valid(t, s, []int{5})
	invalid(t, s, nil, []int{5, 5})
	s = of(pending(5, api.Register, api.Read, 0, 9), read(5, 7, 2, 6), read(5, 7, 2, 6))
	valid(t, s, nil, []int{5})
	invalid(t, s, []int{5, 5})
	// It is the first as they stand, not by times; and it is by its times that it is behind 1.
	s = of(write(5, 1, 8, 9), write(5, 2, 1, 2), write(1, 3, 4, 6))
	valid(t, s, []int{1, 5})
	invalid(t, s, []int{5, 1})
}

// TestValidAsTheyStand has operations in all orders: it doesn't matter how they stand.
func TestValidAsTheyStand(t *testing.T) {
	l := []api.Op{write(4, 1, 1, 5), read(2, 1, 6, 9), read(7, 0, 0, 9), pending(1, api.Register, api.Read, 0, 7)}
	for _, p := range picks(4) {
		if len(p) < 4 {
			continue
		}
		s := of(l[p[0]], l[p[1]], l[p[2]], l[p[3]])
		s.Object, s.Kind = p[0]-1, api.Register
		valid(t, s, []int{7, 4, 2}, []int{7, 4, 1, 2})
		invalid(t, s, []int{7, 2, 4}, []int{4, 7, 2}, []int{7, 4}, []int{7, 1, 4, 2})
		least(t, s, []int{7, 4, 1, 2})
	}
}

// TestValidOfWhatMayNotBe has operations that are before themselves, IDs and times that no operation has, and methods of no kind.
func TestValidOfWhatMayNotBe(t *testing.T) {
	valid(t, of(read(1, 0, 9, 2)), []int{1})
	valid(t, of(read(0, 0, 1, 2), read(-4, 0, -9, math.MaxInt), read(1<<40, 0, math.MinInt, 3)), []int{-4, 0, 1 << 40}, []int{1 << 40, 0, -4})
	// Each of these two is before the other one: one of them is behind one that it is before.
	invalid(t, of(read(1, 0, 9, 2), read(2, 0, 8, 3)), []int{1, 2}, []int{2, 1})
	s := api.Segment{Kind: api.Queue, Ops: []api.Op{{ID: 3, Kind: api.Queue, Method: 99}}}
	valid(t, s, nil)
	invalid(t, s, []int{3})
}

// TestValidOfMany has far more operations than a history, or a search, may have.
func TestValidOfMany(t *testing.T) {
	var s api.Segment
	var ids []int
	s.Kind = api.Queue
	for id := range 50000 {
		s.Ops = append(s.Ops, enq(id, id, 5, 9))
		ids = append(ids, id)
	}
	for id := range 50000 {
		s.Ops = append(s.Ops, deq(50000+id, id, 6, 10))
		ids = append(ids, 50000+id)
	}
	valid(t, s, ids)
	invalid(t, s, ids[:len(ids)-1], ids[1:], append(slices.Clone(ids), 1), append(slices.Clone(ids[1:]), 0))
	s.Ops[len(s.Ops)-1].Return = 4
	invalid(t, s, ids)
}

// P16.2

// least tells that the least order of an object's operations is this one, whatever the budget, as long as it is enough; and that it is Valid.
func least(t *testing.T, s api.Segment, want []int) {
	t.Helper()
	spots := enough(t, s)
	for _, budget := range []int{spots, spots + 1, spots + 100, 1<<15 - 1, 1 << 15, 1<<15 + 1, 1 << 32, math.MaxInt} {
		if budget < spots {
			continue
		}
		if l, ok, e := order.Least(s, budget); e != api.OK || !ok || !slices.Equal(l, want) {
			t.Errorf("Least(%+v, %d) = %v, %v, %d, not %v", s, budget, l, ok, e, want)
		}
	}
	valid(t, s, want)
	for _, less := range []int{1, 2, 3, 5, 8, 20, 70} {
		cutShort(t, s, spots-less, want, true)
	}
}

// never tells that there is no order of an object's operations.
func never(t *testing.T, s api.Segment) {
	t.Helper()
	spots := enough(t, s)
	for _, budget := range []int{spots, spots + 1, 1 << 15, 1<<15 + 1, math.MaxInt} {
		if l, ok, e := order.Least(s, budget); e != api.OK || ok || len(l) != 0 {
			t.Errorf("Least(%+v, %d) = %v, %v, %d, not none", s, budget, l, ok, e)
		}
	}
	for _, less := range []int{1, 2, 3, 5, 8, 20, 70} {
		cutShort(t, s, spots-less, nil, false)
	}
}

// cutShort tells that a budget that may be too little has its error, with nothing beside it, or is enough; below none it is too little.
func cutShort(t *testing.T, s api.Segment, budget int, want []int, there bool) {
	t.Helper()
	l, ok, e := order.Least(s, budget)
	if e == api.ErrBudget {
		if len(l) != 0 || ok {
			t.Errorf("Least(%+v, %d) = %v, %v, %d", s, budget, l, ok, e)
		}
	} else if budget < 0 || e != api.OK || ok != there || !slices.Equal(l, want) {
		t.Errorf("Least(%+v, %d) = %v, %v, %d, not %v", s, budget, l, ok, e, want)
	}
}

// refused tells that a call has an error, and nothing beside it.
func refused(t *testing.T, s api.Segment, budget int, want api.Errno) {
	t.Helper()
	if l, ok, e := order.Least(s, budget); e != want || ok || len(l) != 0 {
		t.Errorf("Least of %d operations, the budget %d = %v, %v, %d, not %d", len(s.Ops), budget, l, ok, e, want)
	}
}

func TestLeast(t *testing.T) {
	least(t, of(write(5, 1, 2, 6), read(9, 0, 4, 8)), []int{9, 5})
	least(t, of(write(5, 1, 2, 6), read(9, 1, 4, 8)), []int{5, 9})
	least(t, of(write(9, 1, 2, 6), read(5, 0, 4, 8)), []int{5, 9})
	never(t, of(write(5, 1, 2, 6), read(9, 2, 4, 8)))
	never(t, of(write(5, 1, 2, 6), read(9, 0, 7, 8)))
}

func TestLeastOfNoOperations(t *testing.T) {
	for kind := -1; kind <= api.Kinds+1; kind++ {
		for _, budget := range []int{0, 1, 1 << 15, math.MaxInt} {
			if l, ok, e := order.Least(api.Segment{Kind: kind}, budget); len(l) != 0 || !ok || e != api.OK {
				t.Errorf("Least of none of the kind %d, with %d, = %v, %v, %d", kind, budget, l, ok, e)
			}
		}
	}
}

// TestLeastByIDs has operations that may stand anyhow: neither times nor places say how they stand.
func TestLeastByIDs(t *testing.T) {
	least(t, of(inc(7, 1, 20), inc(3, 2, 20), inc(5, 3, 20), inc(4, 4, 20)), []int{3, 4, 5, 7})
	least(t, of(inc(300, 4, 20), inc(7, 1, 20), inc(1<<30, 3, 20), inc(65536, 2, 20)), []int{7, 300, 65536, 1 << 30})
	least(t, of(inc(0, 4, 20), inc(-7, 1, 20), inc(1<<40, 3, 20), inc(math.MinInt, 2, 20)), []int{math.MinInt, -7, 0, 1 << 40})
	least(t, of(inc(math.MaxInt, 1, 20), inc(math.MinInt, 2, 20)), []int{math.MinInt, math.MaxInt})
}

// TestLeastIsNotGreedy has operations that the least ID first comes to nothing with.
func TestLeastIsNotGreedy(t *testing.T) {
	// 1 may be first, and then 2, but 3 only behind both of 4 and 5.
	least(t, of(write(1, 1, 0, 30), write(2, 2, 0, 30), read(3, 4, 0, 30), write(4, 4, 0, 30), read(5, 0, 0, 30)), []int{5, 1, 2, 4, 3})
	least(t, of(enq(1, 7, 0, 30), enq(2, 8, 0, 30), deq(3, 8, 0, 30), deq(4, 7, 0, 30)), []int{1, 2, 4, 3})
	least(t, of(enq(1, 7, 0, 30), enq(2, 8, 0, 30), deq(3, 8, 0, 30), deq(4, 7, 0, 30), deq(5, -1, 0, 2)), []int{1, 2, 4, 3, 5})
	least(t, of(enq(1, 7, 0, 30), enq(2, 8, 0, 30), deq(3, 8, 0, 2), deq(4, 7, 5, 30), deq(5, -1, 3, 30)), []int{2, 1, 3, 4, 5})
	least(t, of(enq(2, 7, 0, 30), enq(3, 8, 0, 30), deq(4, 8, 0, 2), deq(5, 7, 5, 30), deq(1, -1, 3, 30)), []int{3, 2, 4, 5, 1})
}

// TestLeastThroughPieces has pieces of which the first may be left in several states: what comes behind says which.
func TestLeastThroughPieces(t *testing.T) {
	first := []api.Op{write(8, 1, 0, 9), write(7, 2, 0, 9), write(6, 3, 0, 9)}
	for last, want := range map[int][]int{3: {7, 8, 6, 1}, 2: {6, 8, 7, 1}, 1: {6, 7, 8, 1}} {
		least(t, of(append(slices.Clone(first), read(1, last, 10, 12))...), want)
	}
	never(t, of(append(slices.Clone(first), read(1, 0, 10, 12))...))
	// The piece between lets all three through.
	first = append(first, done(5, api.Register, api.Cas, 9, 0, 13, 14), read(4, 3, 20, 22), pending(1, api.Register, api.Write, 5, 10))
	least(t, of(first...), []int{7, 8, 6, 5, 4})
	first[4].Result = 5
	least(t, of(first...), []int{6, 7, 8, 1, 5, 4})
}

// TestLeastOfWhatHasNoAnswer has operations that may be left out: then they are, but where the lesser ID makes the order less.
func TestLeastOfWhatHasNoAnswer(t *testing.T) {
	least(t, of(pending(1, api.Register, api.Write, 1, 0), pending(2, api.Register, api.Write, 1, 0)), nil)
	least(t, of(read(5, 0, 2, 6), pending(9, api.Register, api.Write, 1, 0)), []int{5})
	least(t, of(read(5, 0, 2, 6), pending(1, api.Register, api.Write, 1, 0)), []int{5})
	least(t, of(read(5, 0, 2, 6), pending(1, api.Register, api.Write, 0, 0)), []int{1, 5})
	least(t, of(read(5, 0, 2, 6), pending(9, api.Register, api.Write, 0, 0)), []int{5})
	least(t, of(read(5, 1, 2, 6), pending(9, api.Register, api.Write, 1, 0)), []int{9, 5})
	least(t, of(read(5, 1, 2, 6), pending(9, api.Register, api.Write, 1, 6)), []int{9, 5})
	never(t, of(read(5, 1, 2, 6), pending(9, api.Register, api.Write, 1, 7)))
	never(t, of(read(5, 1, 2, 6), pending(1, api.Register, api.Write, 2, 1)))
	least(t, of(inc(4, 0, 9), pending(2, api.Counter, api.Inc, 0, 0), pending(6, api.Counter, api.Inc, 0, 0), count(5, 2, 10, 12)), []int{2, 4, 5})
	least(t, of(inc(4, 0, 9), pending(8, api.Counter, api.Inc, 0, 0), pending(6, api.Counter, api.Inc, 0, 0), count(5, 2, 10, 12)), []int{4, 6, 5})
	least(t, of(inc(4, 0, 9), pending(2, api.Counter, api.Inc, 0, 0), pending(3, api.Counter, api.Dec, 0, 0), count(5, 1, 10, 12)), []int{2, 3, 4, 5})
	least(t, of(inc(4, 0, 9), pending(7, api.Counter, api.Inc, 0, 0), pending(3, api.Counter, api.Dec, 0, 0), count(5, 0, 10, 12)), []int{3, 4, 5})
	least(t, of(inc(4, 0, 9), pending(1, api.Counter, api.Inc, 0, 10), pending(3, api.Counter, api.Dec, 0, 99), count(5, 1, 11, 12)), []int{4, 5})
}

// TestLeastByTimes has operations that follow each other, that touch, and that overlap.
func TestLeastByTimes(t *testing.T) {
	least(t, of(inc(2, 1, 4), inc(1, 5, 9)), []int{2, 1})
	least(t, of(inc(2, 1, 5), inc(1, 5, 9)), []int{1, 2})
	least(t, of(inc(2, 5, 5), inc(1, 5, 5)), []int{1, 2})
	// 4 is before 1 and 2, in one segment, as 3 is under way all the while.
	least(t, of(inc(4, 1, 4), inc(1, 5, 9), inc(2, 6, 7), inc(3, 0, 9)), []int{3, 4, 1, 2})
	least(t, of(inc(4, 1, 4), inc(2, 8, 9), inc(1, 5, 7), inc(5, 0, 9)), []int{4, 1, 2, 5})
}

// TestLeastOfTooManyOperations has segments of 16 operations, and of one more.
func TestLeastOfTooManyOperations(t *testing.T) {
	var l []api.Op
	var ids []int
	for i := range 16 {
		l = append(l, read(60-i, 0, i, 100+i))
		ids = append(ids, 45+i)
	}
	s := of(l...)
	if l, ok, e := order.Least(s, math.MaxInt); e != api.ErrBudget && (e != api.OK || !ok || !slices.Equal(l, ids)) {
		t.Errorf("Least of 16 operations = %v, %v, %d", l, ok, e)
	}
	// One of 17 is too many, wherever it stands: ahead of all that there may be to say of it.
	for _, more := range []api.Op{read(1, 0, 16, 17), read(1, 9, 16, 17), pending(1, api.Register, api.Read, 0, 20), read(1, 0, 100, 200), read(1, 0, 0, 1)} {
		long := of(append(slices.Clone(l), more)...)
		later := of(append(slices.Clone(long.Ops), read(2, 0, 300, 301), read(3, 9, 302, 303))...)
		sooner := of(append(slices.Clone(long.Ops), read(2, 9, -8, -7), read(3, 0, -6, -5))...)
		for _, budget := range []int{math.MinInt, -1, 0, 1, 1 << 15, math.MaxInt} {
			refused(t, long, budget, api.ErrMany)
			refused(t, later, budget, api.ErrMany)
			refused(t, sooner, budget, api.ErrMany)
		}
	}
	// It is not in one segment with 16 of them.
	for _, more := range []api.Op{read(1, 0, 116, 117), read(1, 0, -5, -1)} {
		if l, ok, e := order.Least(of(append(slices.Clone(l), more)...), math.MaxInt); e != api.ErrBudget && (e != api.OK || !ok || len(l) != 17) {
			t.Errorf("Least of 16 operations and one = %v, %v, %d", l, ok, e)
		}
	}
}

// chain is operations one after the other, each a segment of two spots; from is the first one's ID, and time.
func chain(from, size int) []api.Op {
	var l []api.Op
	for i := range size {
		l = append(l, inc(from+i, 4*(from+i), 4*(from+i)+1))
	}
	return l
}

// subsets is Incs that all overlap: as many spots as they have subsets.
func subsets(from, size, at int) []api.Op {
	var l []api.Op
	for i := range size {
		l = append(l, inc(from+i, at+i, at+100))
	}
	return l
}

func TestLeastOfTheGreatestBudget(t *testing.T) {
	var ids []int
	for id := 1; id <= 1<<14; id++ {
		ids = append(ids, id)
	}
	s := of(chain(1, 1<<14)...)
	if l, ok, e := order.Least(s, 1<<15); e != api.OK || !ok || !slices.Equal(l, ids) {
		t.Errorf("Least of a chain of 2^15 spots has %d operations, %v, %d", len(l), ok, e)
	}
	valid(t, s, ids)
	for _, budget := range []int{1 << 15, 1<<15 + 2, math.MaxInt} {
		refused(t, of(chain(1, 1<<14+1)...), budget, api.ErrBudget)
	}
	s.Ops[len(s.Ops)-1] = count(1<<14, 5, 1<<20, 1<<20)
	never(t, s)
	// 15 Incs have 2^15 spots; with a Read that no state answers, all must be met.
	none := append(subsets(1, 15, 0), count(16, 99, 0, 100))
	never(t, of(none...))
	for _, budget := range []int{1 << 15, 1<<15 + 2, math.MaxInt} {
		refused(t, of(append(none, inc(17, -9, -8))...), budget, api.ErrBudget)
	}
	least(t, of(subsets(1, 15, 0)...), ids[:15])
}

// TestLeastBeyondTheBudget has budgets that no order can be found with.
func TestLeastBeyondTheBudget(t *testing.T) {
	for size := 1; size <= 12; size++ {
		// From each operation to the next one there is at least a spot.
		for _, budget := range []int{size - 1, 0, -1, math.MinInt} {
			refused(t, of(subsets(1, size, 0)...), budget, api.ErrBudget)
			refused(t, of(chain(1, size)...), budget, api.ErrBudget)
		}
		// That there is none shows only once all spots are met.
		none := append(subsets(1, size, 0), count(50, 99, 0, 100))
		for _, budget := range []int{1<<size - 1, 1 << (size - 1), 0, -1, -1 << 32, math.MinInt} {
			refused(t, of(none...), budget, api.ErrBudget)
		}
		never(t, of(none...))
	}
	refused(t, of(), -1, api.ErrBudget)
	refused(t, of(), math.MinInt, api.ErrBudget)
}

// TestLeastEndsBeyondTheBudget has more spots than could ever be met.
func TestLeastEndsBeyondTheBudget(t *testing.T) {
	s := of()
	for i := range 16 {
		s.Ops = append(s.Ops, enq(i, i, 0, 9))
	}
	s.Ops = append(s.Ops, deq(20, 77, 10, 11))
	for _, budget := range []int{0, 1, 1 << 14, 1 << 15, math.MaxInt} {
		refused(t, s, budget, api.ErrBudget)
	}
}

// TestLeastGoesOnOnceFromEachSpot has far more ways than spots: within segments, and from one to the next.
func TestLeastGoesOnOnceFromEachSpot(t *testing.T) {
	var l []api.Op
	for i := range 11 {
		l = append(l, write(1+i, i, i, 100))
	}
	never(t, of(append(slices.Clone(l), read(50, 77, 200, 201))...))
	never(t, of(append(slices.Clone(l), read(50, 77, 5, 6))...))
	least(t, of(append(slices.Clone(l), read(50, 0, 200, 201))...), []int{2, 3, 4, 5, 6, 7, 8, 9, 10, 11, 1, 50})
	l = nil
	var want []int
	for i := range 60 {
		l = append(l, write(2*i+2, 1, 10*i, 10*i+5), write(2*i+1, 2, 10*i, 10*i+5))
		want = append(want, 2*i+1, 2*i+2)
	}
	least(t, of(l...), want)
	never(t, of(append(slices.Clone(l), read(777, 3, 1000, 1001))...))
	want[118], want[119] = 120, 119
	least(t, of(append(slices.Clone(l), read(777, 2, 1000, 1001))...), append(want, 777))
}

// TestLeastOfLongStates has a queue that grows, and can't be explained at its end.
func TestLeastOfLongStates(t *testing.T) {
	s := of()
	for i := range 2000 {
		s.Ops = append(s.Ops, enq(i, i%1000, 4*i, 4*i+1))
	}
	s.Ops = append(s.Ops, deq(5000, 1, 9000, 9001))
	if l, ok, e := order.Least(s, 1<<15); e != api.OK || ok || len(l) != 0 {
		t.Errorf("Least of a long queue has %d operations, %v, %d, not none", len(l), ok, e)
	}
	s.Ops[2000].Result = 0
	if l, ok, e := order.Least(s, 1<<15); e != api.OK || !ok || len(l) != 2001 || !order.Valid(s, l) {
		t.Errorf("Least of a long queue has %d operations, %v, %d", len(l), ok, e)
	}
}

// TestLeastOfSeveralKinds has operations of other kinds than the object's: each does what its own kind says.
func TestLeastOfSeveralKinds(t *testing.T) {
	s := of(inc(3, 0, 9), read(2, 1, 0, 9), write(1, 0, 0, 9))
	least(t, s, []int{1, 3, 2})
	s.Ops = append(s.Ops, deq(4, 0, 0, 9))
	least(t, s, []int{3, 2, 1, 4})
}

// Rules that hold everywhere

// TestLeastOfWhatMayNotBe has operations of which nothing is promised, but that the call ends, and what it tells.
func TestLeastOfWhatMayNotBe(t *testing.T) {
	for _, s := range []api.Segment{
		of(read(1, 0, 9, 2)), of(read(1, 0, 9, 2), read(2, 0, 8, 3)), of(inc(1, 0, 9), inc(1, 0, 9), inc(1, 10, 12)),
		of(pending(1, api.Register, api.Read, 0, 5), read(2, 0, 9, 2), read(3, 0, 1, 8)), of(inc(1, math.MaxInt, math.MinInt), inc(2, math.MinInt, math.MaxInt)),
		{Kind: 77, Object: -1, Ops: make([]api.Op, 16)}, {Kind: api.Queue, Ops: slices.Repeat([]api.Op{enq(1, 1, 5, 2)}, 40)},
	} {
		for _, budget := range []int{math.MinInt, -1, 0, 1, 5, 1 << 15, math.MaxInt} {
			if l, ok, e := order.Least(s, budget); (e != api.OK || !ok) && len(l) != 0 || e != api.OK && ok {
				t.Errorf("Least(%+v, %d) = %v, %v, %d", s, budget, l, ok, e)
			}
		}
	}
}

// TestNothingIsShared writes over all that calls were given, and answered.
func TestNothingIsShared(t *testing.T) {
	for _, s := range []api.Segment{
		of(), of(inc(4, 0, 9)), of(write(5, 1, 2, 6), read(9, 0, 4, 8)), of(write(5, 1, 2, 6), read(9, 2, 4, 8)),
		of(inc(7, 30, 40), inc(3, 2, 20), inc(5, 3, 20), inc(4, 4, 20), pending(6, api.Counter, api.Inc, 0, 2), count(1, 5, 50, 60)),
	} {
		room := append(append(make([]api.Op, 0, len(s.Ops)+3), s.Ops...), api.Op{ID: 77}, api.Op{ID: 77}, api.Op{ID: 77})
		old := slices.Clone(room)
		given := api.Segment{Object: s.Object, Kind: s.Kind, Ops: room[:len(s.Ops)]}
		first, ok, _ := order.Least(given, 99)
		second, _, _ := order.Least(given, 99)
		want := slices.Clone(first)
		ids := append(append(make([]int, 0, len(want)+3), want...), 77, 77, 77)
		if order.Valid(given, ids[:len(want)]) != ok {
			t.Errorf("Valid(%+v, %v) isn't %v", given, want, ok)
		}
		if !slices.Equal(ids, append(slices.Clone(want), 77, 77, 77)) {
			t.Errorf("Valid(%+v, %v) changes what it is given", given, want)
		}
		clear(first[:cap(first)])
		if !slices.Equal(room, old) {
			t.Errorf("of %+v, what is given is changed, or shared", s)
		}
		clear(room)
		if !slices.Equal(second, want) {
			t.Errorf("Least(%+v) is %v once what it was given, or another answer, is written over", s, second)
		}
	}
}

// enough is a budget that is enough: the spots of all segments, each entered from all states that the one ahead can be left in.
func enough(t *testing.T, s api.Segment) int {
	t.Helper()
	spots, _ := searched(t, s.Ops, model.First(s.Kind))
	return spots
}

// P16.3

func TestThereIsAnOrderIfThereAreExits(t *testing.T) {
	for _, s := range []api.Segment{
		of(write(5, 1, 2, 6), read(9, 0, 4, 8)), of(write(5, 1, 2, 6), read(9, 2, 4, 8)), of(write(5, 1, 2, 6), read(9, 2, 8, 9)),
		of(enq(5, 1, 2, 6), deq(9, 0, 4, 8), pending(3, api.Queue, api.Enq, 0, 7)), of(enq(5, 1, 2, 6), deq(9, 0, 4, 8), pending(3, api.Queue, api.Enq, 0, 9)),
	} {
		_, exits := searched(t, s.Ops, model.First(s.Kind))
		l, ok, e := order.Least(s, 1000)
		if e != api.OK || ok != (len(exits) > 0) || ok && !order.Valid(s, l) {
			t.Errorf("Least(%+v) = %v, %v, %d, but the exits are %v", s, l, ok, e, lin.Unique(exits))
		}
	}
}

package cut_test

import (
	"math"
	"slices"
	"testing"

	"annalist/api"
	"annalist/cut"
)

// done is an operation of a register with an answer.
func done(id, from, to int) api.Op {
	return api.Op{ID: id, Proc: id, Kind: api.Register, Method: api.Read, Done: true, Invoke: from, Return: to}
}

// pending is one without an answer.
func pending(id, from int) api.Op {
	return api.Op{ID: id, Proc: id, Kind: api.Register, Method: api.Read, Invoke: from}
}

// of is the operation as one of an object and a kind.
func of(object, kind int, o api.Op) api.Op {
	o.Object, o.Kind = object, kind
	return o
}

// numbers are such as might be taken for another one.
func numbers() []int {
	return []int{math.MinInt, math.MinInt + 1, -1 << 32, -1 << 31, -2, -1, 0, 1, 2, 1 << 30, 1<<31 - 1, 1 << 31, 1 << 32, 1 << 40, 1<<40 + 1, 1<<40 + 2, math.MaxInt - 1, math.MaxInt}
}

// same tells whether two lists have the same pieces.
func same(a, b []api.Segment) bool {
	return slices.EqualFunc(a, b, func(x, y api.Segment) bool {
		return x.Object == y.Object && x.Kind == y.Kind && slices.Equal(x.Ops, y.Ops)
	})
}

func objects(t *testing.T, l []api.Op, want ...api.Segment) {
	t.Helper()
	if got := cut.Objects(l); !same(got, want) {
		t.Errorf("Objects(%+v) = %+v, not %+v", l, got, want)
	}
}

// segments tells that operations are cut into these pieces, whatever object and kind they are said to be of.
func segments(t *testing.T, l []api.Op, want ...[]api.Op) {
	t.Helper()
	for _, x := range [][2]int{{0, 0}, {4, api.Queue}, {1023, api.Mutex}, {-7, 99}, {math.MaxInt, math.MinInt}} {
		var pieces []api.Segment
		for _, ops := range want {
			pieces = append(pieces, api.Segment{Object: x[0], Kind: x[1], Ops: ops})
		}
		if got := cut.Segments(api.Segment{Object: x[0], Kind: x[1], Ops: l}); !same(got, pieces) {
			t.Errorf("Segments of %+v of object %d, kind %d = %+v, not %+v", l, x[0], x[1], got, pieces)
		}
	}
}

// span tells that operations have a span, in whichever order they stand.
func span(t *testing.T, from, to int, l ...api.Op) {
	t.Helper()
	for range max(1, len(l)) {
		if a, b := cut.Span(l); a != from || b != to {
			t.Errorf("Span(%+v) = %d, %d, not %d, %d", l, a, b, from, to)
		}
		if len(l) > 0 {
			l = append(slices.Clone(l[1:]), l[0])
		}
	}
}

func meets(t *testing.T, l []api.Op, from, to int, want bool) {
	t.Helper()
	if got := cut.Meets(l, from, to); got != want {
		t.Errorf("Meets(%+v, %d, %d) = %t", l, from, to, got)
	}
}

// lists are lists of operations that may be, or may not.
func lists() [][]api.Op {
	l := [][]api.Op{
		nil, {}, {{}}, make([]api.Op, 5), {done(1, 1, 4), done(2, 3, 6), done(3, 7, 9)}, {pending(3, 5), done(2, 1, 3), done(2, 1, 3)},
		{of(2, 3, done(1, 9, 8)), of(1, 3, done(1, 5, 5)), of(2, 1, pending(-1, -1)), of(0, 0, done(0, 2, -9)), of(1, 6, done(7, 5, 1<<40+9))},
	}
	var edges []api.Op
	for _, n := range numbers() {
		edges = append(edges, api.Op{ID: n, Object: n, Kind: n, Done: n%2 == 0, Invoke: n, Return: n}, api.Op{ID: 1, Object: n, Invoke: -1 - n, Return: n, Done: true})
	}
	return append(l, edges)
}

// P14.1

func TestObjects(t *testing.T) {
	a, b, c := of(2, api.Register, done(1, 10, 20)), of(1, api.Queue, done(2, 1, 5)), of(2, api.Register, done(3, 2, 8))
	d, e := of(1, api.Queue, pending(4, 7)), of(0, api.Mutex, done(5, 30, 40))
	objects(t, []api.Op{a}, api.Segment{Object: 2, Kind: api.Register, Ops: []api.Op{a}})
	objects(t, []api.Op{a, b, c, d, e},
		api.Segment{Object: 0, Kind: api.Mutex, Ops: []api.Op{e}},
		api.Segment{Object: 1, Kind: api.Queue, Ops: []api.Op{b, d}},
		api.Segment{Object: 2, Kind: api.Register, Ops: []api.Op{c, a}})
}

func TestObjectsOfNone(t *testing.T) {
	objects(t, nil)
	objects(t, []api.Op{})
	objects(t, make([]api.Op, 0, 9))
}

func TestObjectsRise(t *testing.T) {
	var l []api.Op
	var want []api.Segment
	for i, n := range numbers() {
		o := of(n, i, done(1, -i, 5))
		l = append(l, o)
		want = append(want, api.Segment{Object: n, Kind: i, Ops: []api.Op{o}})
	}
	for range l {
		objects(t, l, want...)
		l = append(l[1:], l[0])
	}
	slices.Reverse(l)
	objects(t, l, want...)
}

func TestObjectsStandByInvocations(t *testing.T) {
	var want []api.Op
	for _, from := range numbers() {
		for _, id := range numbers() {
			want = append(want, api.Op{ID: id, Proc: -id, Object: 7, Kind: 3, Method: from, Arg: id, Done: id%2 == 0, Invoke: from, Return: -from})
		}
	}
	l := slices.Clone(want)
	for range 9 {
		objects(t, l, api.Segment{Object: 7, Kind: 3, Ops: want})
		l = append(slices.Clone(l[37:]), l[:37]...)
	}
	slices.Reverse(l)
	objects(t, l, api.Segment{Object: 7, Kind: 3, Ops: want})
}

func TestObjectsOfAnInvokeStandByID(t *testing.T) {
	a, b, c := done(3, 5, 90), done(9, 5, 6), pending(4, 5)
	objects(t, []api.Op{b, a, c}, api.Segment{Kind: api.Register, Ops: []api.Op{a, c, b}})
	d := done(99, 4, 5)
	objects(t, []api.Op{b, a, c, d}, api.Segment{Kind: api.Register, Ops: []api.Op{d, a, c, b}})
}

// TestObjectsKind lets the first one by invocations be neither the first one of the list nor that of the least ID.
func TestObjectsKind(t *testing.T) {
	a, b, c := of(1, api.Set, done(1, 9, 10)), of(1, api.Stack, done(2, 5, 6)), of(1, api.Queue, done(3, 3, 4))
	objects(t, []api.Op{a, b, c}, api.Segment{Object: 1, Kind: api.Queue, Ops: []api.Op{c, b, a}})
	objects(t, []api.Op{a, b}, api.Segment{Object: 1, Kind: api.Stack, Ops: []api.Op{b, a}})
	d := of(1, api.Counter, pending(2, 3))
	objects(t, []api.Op{a, c, d}, api.Segment{Object: 1, Kind: api.Counter, Ops: []api.Op{d, c, a}})
	e := of(2, 0, done(5, 4, 3))
	objects(t, []api.Op{a, e, c}, api.Segment{Object: 1, Kind: api.Queue, Ops: []api.Op{c, a}}, api.Segment{Object: 2, Ops: []api.Op{e}})
}

// TestObjectsWithTheirFields sees to it that operations come as they are, in every field, and however often.
func TestObjectsWithTheirFields(t *testing.T) {
	o := api.Op{ID: 1, Proc: 2, Object: 3, Kind: 4, Method: 5, Arg: 6, Second: 7, Done: true, Result: 8, Invoke: 9, Return: 10}
	objects(t, []api.Op{o, o, o}, api.Segment{Object: 3, Kind: 4, Ops: []api.Op{o, o, o}})
	x := o
	x.Arg, x.Return = -1, 1
	objects(t, []api.Op{o, x, o}, api.Segment{Object: 3, Kind: 4, Ops: []api.Op{o, x, o}})
}

// P14.2

func TestSegments(t *testing.T) {
	a, b, c := done(1, 1, 4), done(2, 3, 6), done(3, 7, 9)
	segments(t, []api.Op{a, b, c}, []api.Op{a, b}, []api.Op{c})
	segments(t, []api.Op{c, b, a}, []api.Op{a, b}, []api.Op{c})
	segments(t, []api.Op{a, c}, []api.Op{a}, []api.Op{c})
	segments(t, []api.Op{b}, []api.Op{b})
}

func TestSegmentsOfNone(t *testing.T) {
	segments(t, nil)
	segments(t, []api.Op{})
	segments(t, make([]api.Op, 0, 9))
}

// TestSegmentsAtTheBound has an operation that is answered just ahead of, and just when, the next one is invoked.
func TestSegmentsAtTheBound(t *testing.T) {
	for _, at := range []int{0, 1, 5, 1 << 31, 1 << 32, 1<<40 - 2} {
		a, b := done(1, at-1, at), done(2, at, at+2)
		segments(t, []api.Op{a, b}, []api.Op{a, b})
		b.Invoke++
		segments(t, []api.Op{a, b}, []api.Op{a}, []api.Op{b})
		segments(t, []api.Op{b, a}, []api.Op{a}, []api.Op{b})
		a.Done = false
		segments(t, []api.Op{a, b}, []api.Op{a, b})
	}
}

// TestSegmentsUnderALongOne has operations that are over before the next one, but that another one still lasts.
func TestSegmentsUnderALongOne(t *testing.T) {
	long := done(50, 1, 100)
	l := []api.Op{long}
	for i := range 30 {
		l = append(l, done(i, 3*i+3, 3*i+4))
	}
	behind := done(51, 101, 102)
	segments(t, append(l, behind), l, []api.Op{behind})
	behind.Invoke = 100
	segments(t, append(l, behind), append(l, behind))
	l[0] = pending(50, 1)
	behind.Invoke, behind.Return = 1<<40-1, 1<<40
	segments(t, append(l, behind), append(l, behind))
	first := done(7, -3, 0)
	segments(t, append(l, first), []api.Op{first}, l)
	// It needn't be the first one that lasts.
	a, b, c, d := done(1, 0, 2), done(2, 1, 20), done(3, 3, 5), done(4, 20, 21)
	segments(t, []api.Op{a, b, c, d}, []api.Op{a, b, c, d})
	d.Invoke = 21
	segments(t, []api.Op{a, b, c, d}, []api.Op{a, b, c}, []api.Op{d})
}

func TestSegmentsOfAChain(t *testing.T) {
	var l []api.Op
	var each [][]api.Op
	for i := range 20 {
		l = append(l, done(100-i, 2*i, 2*i+2))
		each = append(each, []api.Op{done(100-i, 2*i, 2*i+1)})
	}
	segments(t, l, l)
	segments(t, slices.Concat(each...), each...)
	for at := 1; at < len(l); at++ {
		parted := slices.Clone(l)
		parted[at-1].Return--
		segments(t, parted, parted[:at], parted[at:])
		parted[0].Done = false
		segments(t, parted, parted)
	}
}

func TestSegmentsWithoutAnswers(t *testing.T) {
	a, b, c, d := done(1, 1, 4), pending(2, 5), done(3, 90, 91), pending(4, 92)
	segments(t, []api.Op{a, b, c, d}, []api.Op{a}, []api.Op{b, c, d})
	segments(t, []api.Op{d, a, c}, []api.Op{a}, []api.Op{c}, []api.Op{d})
	segments(t, []api.Op{b, pending(5, 5), pending(6, 1<<40)}, []api.Op{b, pending(5, 5), pending(6, 1<<40)})
	// A Return of what isn't Done is none.
	b.Return = 6
	segments(t, []api.Op{a, b, c}, []api.Op{a}, []api.Op{b, c})
	b.Return = -6
	segments(t, []api.Op{a, b, c}, []api.Op{a}, []api.Op{b, c})
}

// TestSegmentsStandByInvocations has operations of few times and numbers, so that many are alike in both.
func TestSegmentsStandByInvocations(t *testing.T) {
	var l []api.Op
	for i := range 60 {
		l = append(l, api.Op{ID: (7 * i) % 4, Arg: i, Done: i%3 > 0, Invoke: (5 * i) % 3, Return: 9})
	}
	var want []api.Op
	for from := range 3 {
		for id := range 4 {
			for _, o := range l {
				if o.Invoke == from && o.ID == id {
					want = append(want, o)
				}
			}
		}
	}
	segments(t, l, want)
	a, b := done(5, 3, 4), done(5, 3, 4)
	a.Arg, b.Arg = 1, 2
	segments(t, []api.Op{a, b}, []api.Op{a, b})
	segments(t, []api.Op{b, a}, []api.Op{b, a})
}

// TestSegmentsOfWhatMayNotBe has answers ahead of the invocation: such an operation may be before itself, and all alike.
func TestSegmentsOfWhatMayNotBe(t *testing.T) {
	a, b := done(1, 5, 4), done(2, 5, 4)
	segments(t, []api.Op{b, a}, []api.Op{a}, []api.Op{b})
	segments(t, []api.Op{a, a, a}, []api.Op{a}, []api.Op{a}, []api.Op{a})
	c := done(3, 5, 5)
	segments(t, []api.Op{c, c, b}, []api.Op{b}, []api.Op{c, c})
	var zero api.Op
	segments(t, []api.Op{zero, zero}, []api.Op{zero, zero})
	low, high := done(1, math.MinInt, math.MaxInt-1), done(2, math.MaxInt, math.MinInt)
	segments(t, []api.Op{high, low}, []api.Op{low}, []api.Op{high})
	low.Return++
	segments(t, []api.Op{high, low}, []api.Op{low, high})
	// A piece that begins with such an answer is cut as its last answer says, not as the answers of the one ahead.
	d, e, f := done(1, 0, 50), done(2, 51, 1), done(3, 51, 60)
	segments(t, []api.Op{d, e, f, done(4, 55, 56)}, []api.Op{d}, []api.Op{e}, []api.Op{f, done(4, 55, 56)})
	// What lies at or below 0 is a time like any other one.
	segments(t, []api.Op{done(1, -9, -5), done(2, -5, -3), done(3, -2, -1)}, []api.Op{done(1, -9, -5), done(2, -5, -3)}, []api.Op{done(3, -2, -1)})
}

// TestSegmentsOfOthers has operations of other objects and kinds than the segment's: they are cut like its own.
func TestSegmentsOfOthers(t *testing.T) {
	a, b, c := of(3, api.Queue, done(1, 1, 4)), of(1, api.Stack, done(2, 3, 6)), of(2, 0, done(3, 7, 9))
	segments(t, []api.Op{c, a, b}, []api.Op{a, b}, []api.Op{c})
}

// P14.3

func TestSpan(t *testing.T) {
	span(t, 0, 0)
	span(t, 5, 9, done(1, 5, 9))
	span(t, 1, 9, done(1, 1, 4), done(2, 3, 6), done(3, 7, 9))
	span(t, 1, 100, done(1, 7, 8), done(2, 3, 100), done(3, 1, 2))
	span(t, 0, 1<<40, done(1, 0, 1), done(2, 1<<40-1, 1<<40))
	span(t, 7, 1<<40+1, pending(1, 7))
	span(t, 0, 1<<40+1, pending(1, 0))
	span(t, 2, 1<<40+1, done(1, 2, 1<<40), pending(2, 1<<40))
	span(t, 2, 1<<40+1, pending(1, 2), pending(2, 9), done(3, 4, 5))
	if a, b := cut.Span([]api.Op{}); a != 0 || b != 0 {
		t.Errorf("Span of an empty list: %d, %d", a, b)
	}
}

// TestSpanOfWhatMayNotBe has times that no operation has: what the words say of these is told of them, too.
func TestSpanOfWhatMayNotBe(t *testing.T) {
	span(t, -7, 0, done(1, -7, -3))
	span(t, -7, 0, done(1, -7, -3), done(2, -4, 0))
	span(t, 5, 4, done(1, 5, 4))
	span(t, 5, 0, done(1, 5, 0))
	span(t, 5, 0, done(1, 5, -8))
	span(t, math.MinInt, math.MaxInt, done(1, math.MinInt, 1), done(2, 3, math.MaxInt))
	span(t, math.MaxInt, 0, done(1, math.MaxInt, math.MinInt))
	span(t, 1, 1<<40+2, done(1, 1, 1<<40+2))
	span(t, 1, 1<<40+2, done(1, 1, 1<<40+2), pending(2, 4))
	span(t, 1, 1<<40+1, done(1, 1, 1<<40+1), pending(2, 4))
	for _, to := range numbers() {
		o := pending(1, 3)
		o.Return = to
		span(t, 3, max(to, 1<<40+1), o)
		span(t, 3, max(to, 1<<40+1), o, done(2, 5, 6))
		o.Done = true
		span(t, 3, max(to, 0), o)
	}
}

func TestMeets(t *testing.T) {
	l := []api.Op{done(2, 8, 9), done(1, 5, 7)}
	for from := range 20 {
		for to := range 20 {
			meets(t, l, from, to, from <= 9 && to >= 5)
		}
	}
	for _, x := range []struct {
		from, to int
		want     bool
	}{
		{9, 9, true}, {10, 10, false}, {5, 5, true}, {4, 4, false}, {0, 4, false}, {0, 5, true}, {9, 1 << 40, true}, {10, 1 << 40, false},
		{math.MinInt, math.MaxInt, true}, {math.MinInt, 4, false}, {math.MinInt, 5, true}, {9, math.MaxInt, true}, {10, math.MaxInt, false},
		{-1, -1, false}, {5 - 1<<32, 4, false}, {5, math.MinInt, false}, {math.MaxInt, math.MaxInt, false},
		// A span that ends ahead of its beginning is held as the words say.
		{9, 5, true}, {7, 6, true}, {10, 5, false}, {9, 4, false}, {math.MaxInt, math.MinInt, false},
	} {
		meets(t, l, x.from, x.to, x.want)
	}
}

func TestMeetsWithoutAnAnswer(t *testing.T) {
	l := []api.Op{done(1, 20, 30), pending(2, 7)}
	meets(t, l, 500, 501, true)
	meets(t, l, 1<<40+1, 1<<40+1, true)
	meets(t, l, 1<<40+1, math.MaxInt, true)
	meets(t, l, 1<<40+2, 1<<40+2, false)
	meets(t, l, 0, 7, true)
	meets(t, l, 0, 6, false)
}

func TestMeetsOfNone(t *testing.T) {
	for _, from := range numbers() {
		for _, to := range numbers() {
			meets(t, nil, from, to, false)
			meets(t, []api.Op{}, from, to, false)
			meets(t, make([]api.Op, 0, 3), from, to, false)
		}
	}
}

func TestMeetsOfWhatMayNotBe(t *testing.T) {
	for _, l := range lists() {
		for _, from := range numbers() {
			for _, to := range numbers() {
				first, last := cut.Span(l)
				meets(t, l, from, to, len(l) > 0 && first <= to && last >= from)
			}
		}
	}
	meets(t, []api.Op{done(1, 5, -8)}, 0, 5, true)
	meets(t, []api.Op{done(1, 5, -8)}, 1, 5, false)
	meets(t, []api.Op{done(1, -9, -8)}, 0, 0, true)
	meets(t, []api.Op{done(1, -9, -8)}, 0, -10, false)
	meets(t, []api.Op{{}}, 0, 0, true)
}

// Rules that hold everywhere

// roomy is a list with spare room behind it, and the whole of it.
func roomy(l []api.Op) ([]api.Op, []api.Op) {
	all := slices.Repeat([]api.Op{{ID: 77, Object: 77, Invoke: -77}}, len(l)+9)
	return all[:copy(all, l)], all
}

// spoil writes into all that pieces have, their spare room too.
func spoil(l []api.Segment) {
	for i := range l[:cap(l)] {
		ops := l[:cap(l)][i].Ops
		for j := range ops[:cap(ops)] {
			ops[:cap(ops)][j] = api.Op{ID: -55}
		}
		l[:cap(l)][i] = api.Segment{Object: -55}
	}
}

// grow puts an operation behind those of each piece.
func grow(l []api.Segment) {
	for i := range l {
		l[i].Ops = append(l[i].Ops, api.Op{ID: -66})
	}
}

// deep is pieces in memory of their own.
func deep(l []api.Segment) []api.Segment {
	own := slices.Clone(l)
	for i := range own {
		own[i].Ops = slices.Clone(own[i].Ops)
	}
	return own
}

func TestPiecesShareNothing(t *testing.T) {
	calls := []func(l []api.Op) []api.Segment{
		cut.Objects,
		func(l []api.Op) []api.Segment { return cut.Segments(api.Segment{Object: 1, Kind: 2, Ops: l}) },
	}
	for _, call := range calls {
		for _, l := range lists() {
			given, all := roomy(l)
			before := slices.Clone(all)
			first, second := call(given), call(given)
			want := deep(second)
			if !same(first, second) {
				t.Errorf("of %+v there are two answers, %+v and %+v", l, first, second)
			}
			grow(first)
			for i := range first {
				if ops := first[i].Ops[:len(first[i].Ops)-1]; !slices.Equal(ops, want[i].Ops) {
					t.Errorf("of %+v two pieces share memory", l)
				}
			}
			spoil(first)
			if !slices.Equal(all, before) {
				t.Errorf("of %+v a call changes, or shares, what it is given", l)
			}
			if !same(second, want) {
				t.Errorf("of %+v two answers share memory", l)
			}
			for i := range all {
				all[i] = api.Op{ID: -44}
			}
			if !same(second, want) {
				t.Errorf("of %+v an answer shares memory with what was given", l)
			}
		}
	}
}

// TestSpanLeavesAlone sees to it that Span and Meets change nothing.
func TestSpanLeavesAlone(t *testing.T) {
	for _, l := range lists() {
		given, all := roomy(l)
		before := slices.Clone(all)
		cut.Span(given)
		cut.Meets(given, 3, 9)
		if !slices.Equal(all, before) {
			t.Errorf("of %+v Span, or Meets, changes what it is given", l)
		}
	}
}

// TestManyOperations would not end in time, if each operation were held against all others.
func TestManyOperations(t *testing.T) {
	const size = 300000
	var l, chain []api.Op
	for i := range size {
		at := 2 * ((7919 * i) % size)
		l = append(l, of(at, api.Register, done(i, at, at+1)))
		chain = append(chain, done(i, at, at+2))
	}
	if got := cut.Objects(l); len(got) != size || got[size-1].Object != 2*size-2 {
		t.Errorf("%d objects", len(got))
	}
	if got := cut.Segments(api.Segment{Ops: l}); len(got) != size || got[size-1].Ops[0].Invoke != 2*size-2 {
		t.Errorf("%d segments", len(got))
	}
	if got := cut.Segments(api.Segment{Ops: chain}); len(got) != 1 || len(got[0].Ops) != size {
		t.Errorf("%d segments of a chain", len(got))
	}
}

package hist_test

import (
	"math"
	"slices"
	"testing"

	"annalist/api"
	"annalist/hist"
)

// read is a register's Read of 0, with an answer.
func read(id, proc, object, from, to int) api.Op {
	return api.Op{ID: id, Proc: proc, Object: object, Kind: api.Register, Method: api.Read, Done: true, Invoke: from, Return: to}
}

// pending is an operation without its answer.
func pending(o api.Op) api.Op {
	o.Done, o.Result, o.Return = false, 0, 0
	return o
}

// lock is the operation as one of a mutex.
func lock(o api.Op) api.Op {
	o.Kind, o.Method = api.Mutex, api.Lock
	return o
}

// row is a history of so many operations, each with a process of its own, and with the numbers 10, 20, 30 and so on.
func row(size int) []api.Op {
	var l []api.Op
	for i := range size {
		l = append(l, read(10*i+10, i, i%7, i, i+100))
	}
	return l
}

// some is a history with operations of several kinds, with and without answers.
func some() []api.Op {
	return []api.Op{
		{ID: 10, Proc: 1, Object: 1, Kind: api.Register, Method: api.Write, Arg: 3, Done: true, Invoke: 10, Return: 20},
		{ID: 20, Proc: 2, Object: 1, Kind: api.Register, Method: api.Read, Done: true, Result: 3, Invoke: 15, Return: 25},
		{ID: 30, Proc: 1, Object: 2, Kind: api.Queue, Method: api.Enq, Arg: 5, Done: true, Invoke: 21, Return: 30},
		{ID: 40, Proc: 3, Object: 2, Kind: api.Queue, Method: api.Deq, Invoke: 5},
		{ID: 50, Proc: 1, Object: 1, Kind: api.Register, Method: api.Cas, Arg: 3, Second: 4, Invoke: 31},
	}
}

// numbers are such as might be taken for another one.
func numbers() []int {
	return []int{math.MinInt, -1 << 32, -1 << 31, -1, 0, 1, 1 << 30, 1<<31 - 1, 1 << 31, 1 << 32, math.MaxInt}
}

func check(t *testing.T, want api.Errno, l ...api.Op) {
	t.Helper()
	if e := hist.Check(l); e != want {
		t.Errorf("Check(%+v) = %d, not %d", l, e, want)
	}
}

// refused tells that an edit is refused, and that nothing is told with the error.
func refused(t *testing.T, want api.Errno, l []api.Op, kind int, o api.Op) {
	t.Helper()
	next, was, is, e := hist.Apply(l, api.Edit{Kind: kind, Op: o})
	if e != want || len(next) != 0 || was != (api.Op{}) || is != (api.Op{}) {
		t.Errorf("Apply(%+v, {%d, %+v}) = %+v, %+v, %+v, %d, not %d", l, kind, o, next, was, is, e, want)
	}
}

// done is the history behind an edit that can be done.
func done(t *testing.T, l []api.Op, kind int, o api.Op) []api.Op {
	t.Helper()
	next, _, _, e := hist.Apply(l, api.Edit{Kind: kind, Op: o})
	if e != api.OK {
		t.Errorf("Apply(%+v, {%d, %+v}): error %d", l, kind, o, e)
	}
	return next
}

// becomes tells that an edit makes one operation out of another one; was, or is, is zero, if there is none.
func becomes(t *testing.T, l []api.Op, kind int, o, was, is api.Op) {
	t.Helper()
	want := []api.Op{}
	for _, x := range l {
		if x != was {
			want = append(want, x)
		}
	}
	if is.ID != 0 {
		want = append(want, is)
	}
	slices.SortFunc(want, func(a, b api.Op) int { return a.ID - b.ID })
	next, gotWas, gotIs, e := hist.Apply(l, api.Edit{Kind: kind, Op: o})
	if e != api.OK || !slices.Equal(next, want) || gotWas != was || gotIs != is {
		t.Errorf("Apply(%+v, {%d, %+v}) = %+v, %+v, %+v, %d, not %+v, %+v, %+v", l, kind, o, next, gotWas, gotIs, e, want, was, is)
	}
}

// P12.1

func TestGet(t *testing.T) {
	for size := range 70 {
		l := row(size)
		for id := -5; id < 10*size+25; id++ {
			o, ok := hist.Get(l, id)
			if want := id >= 10 && id <= 10*size && id%10 == 0; ok != want {
				t.Errorf("Get of %d among %d: %t", id, size, ok)
			} else if want && o != l[id/10-1] || !want && o != (api.Op{}) {
				t.Errorf("Get of %d among %d: %+v", id, size, o)
			}
		}
		for _, id := range append(numbers(), 10-1<<32, 10+1<<32, 10+1<<62) {
			if o, ok := hist.Get(l, id); ok || o != (api.Op{}) {
				t.Errorf("Get of %d among %d: %+v, %t", id, size, o, ok)
			}
		}
	}
}

func TestGetOfAnyNumbersThatRise(t *testing.T) {
	var l []api.Op
	for i, id := range numbers() {
		l = append(l, api.Op{ID: id, Arg: i})
	}
	for i, id := range numbers() {
		if o, ok := hist.Get(l, id); !ok || o != l[i] {
			t.Errorf("Get of %d: %+v, %t", id, o, ok)
		}
		if o, ok := hist.Get(slices.Delete(slices.Clone(l), i, i+1), id); ok || o != (api.Op{}) {
			t.Errorf("Get of %d, which isn't there: %+v, %t", id, o, ok)
		}
	}
}

func TestCheckOfWhatMayBe(t *testing.T) {
	check(t, api.OK)
	check(t, api.OK, []api.Op{}...)
	check(t, api.OK, some()...)
	for size := range 65 {
		check(t, api.OK, row(size)...)
	}
	for _, o := range some() {
		check(t, api.OK, o)
	}
	check(t, api.OK, read(1, 0, 0, 0, 1), read(2, 1023, 1023, 1<<40-1, 1<<40), read(1<<30, 0, 0, 2, 1<<40))
}

func TestCheckOfTooMany(t *testing.T) {
	check(t, api.OK, row(64)...)
	for _, size := range []int{65, 66, 128, 300} {
		check(t, api.ErrMany, row(size)...)
		check(t, api.ErrMany, make([]api.Op, size)...)
	}
	check(t, api.ErrOp, make([]api.Op, 64)...)
	l := row(65)
	l[0].Proc, l[1].ID, l[2].Object, l[3].Kind = 5, 1, l[4].Object, api.Mutex
	check(t, api.ErrMany, l...)
}

func TestCheckOfOperationsThatMayNotBe(t *testing.T) {
	for size := 1; size <= 64; size += 9 {
		for at := range size {
			for _, x := range []struct {
				spoil func(o *api.Op)
				want  api.Errno
			}{
				{func(o *api.Op) { o.ID = 0 }, api.ErrOp},
				{func(o *api.Op) { o.ID = 1<<30 + 1 }, api.ErrOp},
				{func(o *api.Op) { o.Proc = 1024 }, api.ErrOp},
				{func(o *api.Op) { o.Object = -1 }, api.ErrOp},
				{func(o *api.Op) { o.Method = api.Deq }, api.ErrKind},
				{func(o *api.Op) { o.Second = 1 }, api.ErrKind},
				{func(o *api.Op) { o.Result = -1 }, api.ErrKind},
				{func(o *api.Op) { o.Return = o.Invoke }, api.ErrTime},
				{func(o *api.Op) { o.Done = false }, api.ErrTime},
			} {
				l := row(size)
				x.spoil(&l[at])
				check(t, x.want, l...)
			}
		}
	}
}

func TestCheckOfNumbersThatDoNotRise(t *testing.T) {
	for size := 2; size <= 64; size += 8 {
		for at := 1; at < size; at++ {
			l := row(size)
			l[at].ID = l[at-1].ID
			check(t, api.ErrTwice, l...)
			l[at].ID--
			check(t, api.ErrTwice, l...)
			l[at].ID = 1
			check(t, api.ErrTwice, l...)
			l = row(size)
			l[at-1], l[at] = l[at], l[at-1]
			check(t, api.ErrTwice, l...)
		}
	}
	same := read(4, 1, 1, 1, 2)
	check(t, api.ErrTwice, same, same)
	check(t, api.ErrTwice, read(5, 1, 1, 1, 2), read(9, 1, 1, 3, 4), read(7, 1, 1, 5, 6))
	check(t, api.OK, read(5, 1, 1, 1, 2), read(6, 1, 1, 3, 4), read(7, 1, 1, 5, 6))
}

func TestCheckGoesOperationByOperation(t *testing.T) {
	good, later := read(5, 1, 1, 1, 2), read(6, 1, 1, 3, 4)
	twice := read(5, 1, 1, 3, 4)
	wrong := read(5, 1, 1, 3, 3) // its number isn't above the one ahead, and it may not be
	nameless := read(0, 1, 1, 5, 6)
	check(t, api.ErrTime, good, wrong)
	check(t, api.ErrTwice, good, twice, nameless)
	check(t, api.ErrOp, good, later, nameless, wrong)
	check(t, api.ErrTime, good, wrong, nameless)
	check(t, api.ErrTime, good, later, read(7, 1, 1, 9, 8), read(3, 1, 1, 9, 10))
}

func TestCheckLooksAtOperationsAheadOfOthers(t *testing.T) {
	a, busy := read(1, 1, 1, 1, 9), read(2, 1, 1, 5, 12)
	check(t, api.ErrBusy, a, busy)
	check(t, api.ErrTime, a, busy, read(3, 7, 7, 4, 4))
	check(t, api.ErrTwice, a, busy, read(2, 7, 7, 4, 5))
	check(t, api.ErrOp, a, lock(read(2, 2, 1, 5, 12)), read(3, -1, 7, 4, 5))
	check(t, api.ErrTwice, a, lock(read(2, 2, 1, 5, 12)), read(1, 7, 7, 4, 5))
}

func TestCheckOfKinds(t *testing.T) {
	a := read(1, 1, 1, 1, 2)
	check(t, api.ErrKind, a, lock(read(2, 2, 1, 1, 2)))
	check(t, api.ErrKind, a, lock(read(2, 1, 1, 3, 4)))
	check(t, api.ErrKind, a, lock(pending(read(2, 2, 1, 1<<40, 0))))
	check(t, api.ErrKind, a, read(2, 1, 1, 5, 6), lock(read(3, 2, 1, 1, 2)))
	check(t, api.ErrKind, a, read(2, 1, 2, 5, 6), lock(read(3, 2, 2, 1, 2)))
	check(t, api.OK, a, lock(read(2, 2, 2, 1, 2)))
	check(t, api.OK, a, lock(read(2, 2, 0, 1, 2)), lock(read(3, 3, 0, 1, 2)), read(4, 4, 1, 1, 2))
	counted := a
	counted.ID, counted.Proc, counted.Kind = 2, 2, api.Counter // it has the method Read, too
	check(t, api.ErrKind, a, counted)
	for i := range 64 {
		l := row(64)
		l[i] = lock(l[i])
		check(t, api.ErrKind, l...)
		l[i].Object = 1000
		check(t, api.OK, l...)
	}
}

func TestCheckOfTimes(t *testing.T) {
	a := read(1, 0, 1, 1, 5)
	for _, x := range []struct {
		from, to int
		want     api.Errno
	}{
		{5, 9, api.ErrBusy}, {6, 9, api.OK}, {0, 1, api.ErrBusy}, {2, 4, api.ErrBusy}, {0, 9, api.ErrBusy}, {1, 5, api.ErrBusy},
		{1, 9, api.ErrBusy}, {4, 9, api.ErrBusy}, {1 << 39, 1 << 40, api.OK},
	} {
		for _, object := range []int{0, 1, 2} {
			check(t, x.want, a, read(2, 0, object, x.from, x.to))
			check(t, x.want, read(1, 0, object, x.from, x.to), read(2, 0, 1, 1, 5))
			check(t, x.want, a, pending(read(2, 0, object, x.from, 0)))
			check(t, api.OK, a, read(2, 1, object, x.from, x.to))
			check(t, api.OK, a, pending(read(2, 1, object, x.from, 0)))
		}
	}
	check(t, api.OK, read(1, 0, 1, 6, 9), read(2, 0, 1, 1, 5))
	check(t, api.ErrBusy, pending(read(1, 0, 1, 1, 0)), read(2, 0, 1, 9, 10))
	check(t, api.ErrBusy, pending(read(1, 0, 1, 1, 0)), pending(read(2, 0, 1, 9, 0)))
	check(t, api.OK, pending(read(1, 0, 1, 6, 0)), read(2, 0, 1, 1, 5))
}

func TestCheckOfTimesAmongMany(t *testing.T) {
	for i := range 64 {
		for j := range i {
			l := row(64)
			l[i].Proc = l[j].Proc
			check(t, api.ErrBusy, l...)
			l[i].Invoke, l[i].Return = 200, 201
			check(t, api.OK, l...)
		}
	}
}

func TestCheckOfSeveralThingsThatAreWrong(t *testing.T) {
	a := read(1, 1, 1, 1, 5)
	busy := read(2, 1, 2, 5, 9)
	kind := lock(read(3, 3, 1, 1, 5))
	check(t, api.ErrKind, a, lock(read(2, 1, 1, 5, 9)))
	check(t, api.ErrKind, a, busy, kind)
	check(t, api.ErrBusy, a, busy, read(3, 3, 3, 1, 5), lock(read(4, 4, 3, 1, 5)))
	check(t, api.ErrKind, read(1, 3, 3, 1, 5), lock(read(2, 4, 3, 1, 5)), read(3, 1, 1, 1, 5), read(4, 1, 2, 5, 9))
	check(t, api.ErrBusy, read(1, 3, 1, 1, 5), read(2, 1, 3, 1, 5), lock(read(4, 4, 3, 1, 5)), read(5, 3, 4, 1, 5))
}

// TestCheckOfTheLastBesideTheFirst lets just one pair, the furthest or the nearest, be wrong.
func TestCheckOfTheLastBesideTheFirst(t *testing.T) {
	for _, at := range []int{1, 2, 31, 62, 63} {
		l := row(64)
		l[at].Proc, l[at].Object = 0, 900
		check(t, api.ErrBusy, l...)
		l = row(64)
		l[0].Object, l[at].Object = 900, 900
		l[at] = lock(l[at])
		check(t, api.ErrKind, l...)
	}
}

// P12.2

func TestApplyOfNoSuchKind(t *testing.T) {
	for _, l := range [][]api.Op{nil, {}, some(), row(64)} {
		for _, kind := range append(numbers(), -2, 7, 8, 1<<32+2, 256+1) {
			if kind == api.EditAdd {
				continue
			}
			for _, o := range []api.Op{{}, {ID: 10}, {ID: 11}, read(10, 1, 1, 5, 6), read(11, 9, 1, 5, 6), {ID: -1, Proc: -1, Kind: -1}} {
				refused(t, api.ErrArg, l, kind, o)
			}
		}
	}
}

func TestAdd(t *testing.T) {
	becomes(t, nil, api.EditAdd, read(7, 0, 0, 0, 1), api.Op{}, read(7, 0, 0, 0, 1))
	becomes(t, []api.Op{}, api.EditAdd, pending(read(1<<30, 1023, 1023, 1<<40, 0)), api.Op{}, pending(read(1<<30, 1023, 1023, 1<<40, 0)))
	for size := range 64 {
		for id := 1; id < 10*size+20; id++ {
			o := read(id, 100, 1, 7, 9)
			if id%10 == 0 && id <= 10*size {
				refused(t, api.ErrTwice, row(size), api.EditAdd, o)
				continue
			}
			becomes(t, row(size), api.EditAdd, o, api.Op{}, o)
		}
	}
}

func TestAddOfWhatIsWrong(t *testing.T) {
	l := some()
	for _, x := range []struct {
		o    api.Op
		want api.Errno
	}{
		{api.Op{}, api.ErrOp},
		{read(0, 9, 1, 40, 50), api.ErrOp},
		{read(1<<30+1, 9, 1, 40, 50), api.ErrOp},
		{read(60, 1024, 1, 40, 50), api.ErrOp},
		{read(60, 9, 1024, 40, 50), api.ErrOp},
		{api.Op{ID: 60, Proc: 9, Object: 1, Kind: api.Register, Method: api.Deq, Invoke: 40}, api.ErrKind},
		{api.Op{ID: 60, Proc: 9, Object: 1, Kind: api.Register, Method: api.Read, Arg: 1, Invoke: 40}, api.ErrKind},
		{api.Op{ID: 60, Proc: 9, Object: 1, Kind: api.Register, Method: api.Read, Result: 1, Invoke: 40}, api.ErrKind},
		{read(60, 9, 1, 40, 40), api.ErrTime},
		{read(60, 9, 1, -1, 40), api.ErrTime},
		{read(30, 9, 1, 40, 50), api.ErrTwice},
		{l[2], api.ErrTwice},
		{lock(read(60, 9, 1, 40, 50)), api.ErrKind},
		{lock(read(60, 9, 2, 40, 50)), api.ErrKind},
		{read(60, 9, 2, 40, 50), api.ErrKind},
		{read(60, 2, 1, 25, 50), api.ErrBusy},
		{read(60, 2, 1, 1, 15), api.ErrBusy},
		{read(60, 3, 1, 5, 6), api.ErrBusy},
		{read(60, 1, 3, 40, 50), api.ErrBusy},
		{pending(read(60, 2, 1, 10, 0)), api.ErrBusy},
	} {
		refused(t, x.want, l, api.EditAdd, x.o)
	}
	for _, o := range []api.Op{read(60, 2, 1, 26, 50), read(15, 2, 1, 1, 14), read(1, 3, 1, 3, 4), read(60, 1, 3, 1, 9), pending(read(60, 2, 1, 26, 0)), lock(read(60, 9, 3, 40, 50))} {
		becomes(t, l, api.EditAdd, o, api.Op{}, o)
	}
}

func TestAddAnswersTheFirstError(t *testing.T) {
	l := row(64)
	refused(t, api.ErrOp, l, api.EditAdd, lock(read(0, 1, 1, 5, 5)))
	refused(t, api.ErrTime, l, api.EditAdd, lock(read(10, 1, 0, 5, 5)))
	refused(t, api.ErrTwice, l, api.EditAdd, lock(read(10, 1, 0, 5, 9)))
	refused(t, api.ErrTwice, l, api.EditAdd, l[3])
	refused(t, api.ErrKind, l, api.EditAdd, lock(read(11, 1, 0, 5, 9)))
	refused(t, api.ErrBusy, l, api.EditAdd, read(11, 1, 0, 5, 9))
	refused(t, api.ErrMany, l, api.EditAdd, read(11, 100, 0, 5, 9))
	refused(t, api.ErrMany, l, api.EditAdd, read(1, 100, 700, 5, 9))
	refused(t, api.ErrMany, l, api.EditAdd, pending(read(1<<30, 100, 0, 5, 9)))
	o := read(11, 100, 0, 5, 9)
	becomes(t, row(63), api.EditAdd, o, api.Op{}, o)
	refused(t, api.ErrMany, done(t, row(63), api.EditAdd, o), api.EditAdd, read(12, 101, 0, 5, 9))
}

func TestDelete(t *testing.T) {
	for size := range 65 {
		for id := -3; id < 10*size+20; id++ {
			if o, ok := hist.Get(row(size), id); ok {
				becomes(t, row(size), api.EditDelete, api.Op{ID: id}, o, api.Op{})
				continue
			}
			refused(t, api.ErrNone, row(size), api.EditDelete, api.Op{ID: id})
		}
	}
	for _, o := range some() {
		becomes(t, some(), api.EditDelete, o, o, api.Op{})
		becomes(t, some(), api.EditDelete, api.Op{ID: o.ID, Proc: -1, Kind: 99, Method: -1, Invoke: -1, Result: 4}, o, api.Op{})
	}
}

func TestEditsOfNoOperation(t *testing.T) {
	for _, l := range [][]api.Op{nil, {}, some(), row(64)} {
		for kind := api.EditDelete; kind <= api.EditPending; kind++ {
			for _, id := range append(numbers(), 2, 9, 11, 19, 21, 645, 1<<32+10) {
				refused(t, api.ErrNone, l, kind, api.Op{ID: id})
				refused(t, api.ErrNone, l, kind, read(id, 1, 1, 5, 9))
				refused(t, api.ErrNone, l, kind, read(id, -1, 1, 9, 5))
			}
		}
	}
}

func TestTime(t *testing.T) {
	l := some()
	at := func(id, from, to int) api.Op { return api.Op{ID: id, Invoke: from, Return: to} }
	for _, x := range []struct{ id, from, to int }{
		{10, 0, 1}, {10, 10, 20}, {10, 1, 20}, {20, 0, 1 << 40}, {20, 1<<40 - 1, 1 << 40}, {30, 21, 22}, {30, 29, 30}, {40, 0, 0}, {40, 1 << 40, 0}, {50, 31, 0}, {50, 1 << 40, 0},
	} {
		was, _ := hist.Get(l, x.id)
		is := was
		is.Invoke, is.Return = x.from, x.to
		becomes(t, l, api.EditTime, at(x.id, x.from, x.to), was, is)
		// Nothing else of Op is asked for.
		becomes(t, l, api.EditTime, api.Op{ID: x.id, Proc: -9, Object: 4000, Kind: 9, Method: 99, Arg: -1, Second: -1, Done: !was.Done, Result: 77, Invoke: x.from, Return: x.to}, was, is)
	}
	for _, x := range []struct {
		id, from, to int
		want         api.Errno
	}{
		{10, -1, 5, api.ErrTime}, {10, 5, 5, api.ErrTime}, {10, 5, 4, api.ErrTime}, {10, 5, 0, api.ErrTime}, {10, 5, 1<<40 + 1, api.ErrTime}, {10, 1<<40 + 1, 1<<40 + 2, api.ErrTime},
		{40, 5, 6, api.ErrTime}, {40, -1, 0, api.ErrTime}, {40, 1<<40 + 1, 0, api.ErrTime}, {10, math.MinInt, math.MaxInt, api.ErrTime},
		{10, 10, 21, api.ErrBusy}, {10, 22, 24, api.ErrBusy}, {30, 20, 25, api.ErrBusy}, {30, 21, 31, api.ErrBusy}, {50, 30, 0, api.ErrBusy}, {50, 0, 0, api.ErrBusy}, {30, 1 << 39, 1 << 40, api.ErrBusy},
	} {
		refused(t, x.want, l, api.EditTime, at(x.id, x.from, x.to))
	}
}

func TestLabel(t *testing.T) {
	l := some()
	for _, x := range []struct{ id, method, arg, second, result int }{
		{10, api.Write, 3, 0, 0}, {10, api.Write, 1 << 30, 0, 0}, {10, api.Read, 0, 0, 1 << 30}, {10, api.Cas, 1, 2, 1}, {20, api.Cas, 0, 0, 0},
		{30, api.Deq, 0, 0, -1}, {30, api.Enq, 0, 0, 0}, {40, api.Enq, 9, 0, 0}, {40, api.Deq, 0, 0, 0}, {50, api.Read, 0, 0, 0}, {50, api.Cas, 1 << 30, 1 << 30, 0},
	} {
		was, _ := hist.Get(l, x.id)
		is := was
		is.Method, is.Arg, is.Second, is.Result = x.method, x.arg, x.second, x.result
		becomes(t, l, api.EditLabel, api.Op{ID: x.id, Method: x.method, Arg: x.arg, Second: x.second, Result: x.result}, was, is)
		becomes(t, l, api.EditLabel, api.Op{ID: x.id, Proc: 4, Object: 4000, Kind: api.Mutex, Method: x.method, Arg: x.arg, Second: x.second, Done: !was.Done, Result: x.result, Invoke: 9, Return: 3}, was, is)
	}
	for _, o := range []api.Op{
		{ID: 10}, {ID: 10, Kind: api.Queue, Method: api.Enq}, {ID: 10, Method: api.Write, Arg: -1}, {ID: 10, Method: api.Write, Arg: 1<<30 + 1}, {ID: 10, Method: api.Write, Second: 1},
		{ID: 10, Method: api.Write, Result: 1}, {ID: 10, Method: api.Read, Arg: 1}, {ID: 10, Method: api.Read, Result: -1}, {ID: 10, Method: api.Cas, Result: 2},
		{ID: 30, Method: api.Deq, Result: -2}, {ID: 40, Method: api.Deq, Result: -1}, {ID: 40, Method: api.Deq, Result: 1}, {ID: 40, Method: api.Pop}, {ID: 50, Method: api.Cas, Result: 1}, {ID: 50, Method: 15},
	} {
		refused(t, api.ErrKind, l, api.EditLabel, o)
	}
}

func TestAnswer(t *testing.T) {
	l := some()
	for _, x := range []struct{ id, result, to int }{{40, 5, 6}, {40, -1, 1 << 40}, {40, 1 << 30, 99}, {50, 0, 32}, {50, 1, 1 << 40}} {
		was, _ := hist.Get(l, x.id)
		is := was
		is.Done, is.Result, is.Return = true, x.result, x.to
		becomes(t, l, api.EditAnswer, api.Op{ID: x.id, Result: x.result, Return: x.to}, was, is)
		becomes(t, l, api.EditAnswer, api.Op{ID: x.id, Proc: -1, Object: -1, Kind: 7, Method: api.Pop, Arg: 1, Second: 1, Done: x.to%2 == 0, Result: x.result, Invoke: 1 << 41, Return: x.to}, was, is)
	}
	for _, x := range []struct {
		id, result, to int
		want           api.Errno
	}{
		{10, 0, 20, api.ErrState}, {20, 3, 25, api.ErrState}, {30, 99, 1, api.ErrState},
		{40, -2, 9, api.ErrKind}, {40, 1<<30 + 1, 9, api.ErrKind}, {50, 2, 99, api.ErrKind}, {50, -1, 99, api.ErrKind}, {50, 2, 1, api.ErrKind},
		{40, 0, 5, api.ErrTime}, {40, 0, 4, api.ErrTime}, {40, 0, 0, api.ErrTime}, {40, 0, 1<<40 + 1, api.ErrTime}, {50, 1, 31, api.ErrTime},
	} {
		refused(t, x.want, l, api.EditAnswer, api.Op{ID: x.id, Result: x.result, Return: x.to})
	}
}

func TestPending(t *testing.T) {
	l := some()
	becomes(t, l, api.EditPending, api.Op{ID: 20}, l[1], pending(l[1]))
	becomes(t, l, api.EditPending, api.Op{ID: 20, Proc: -1, Object: -1, Kind: 7, Method: api.Pop, Arg: 1, Second: 1, Done: true, Result: 9, Invoke: -4, Return: 99}, l[1], pending(l[1]))
	for _, o := range row(64) {
		becomes(t, row(64), api.EditPending, api.Op{ID: o.ID}, o, pending(o))
	}
	refused(t, api.ErrState, l, api.EditPending, api.Op{ID: 40})
	refused(t, api.ErrState, l, api.EditPending, api.Op{ID: 50, Done: true, Result: 1, Return: 99})
	// Without an answer they overlap what the same process did later.
	refused(t, api.ErrBusy, l, api.EditPending, api.Op{ID: 10})
	refused(t, api.ErrBusy, l, api.EditPending, api.Op{ID: 30})
	without := done(t, l, api.EditDelete, api.Op{ID: 50})
	becomes(t, without, api.EditPending, api.Op{ID: 30}, l[2], pending(l[2]))
}

// TestApplySharesNothing edits histories with spare room behind them, and writes into what is answered.
func TestApplySharesNothing(t *testing.T) {
	for _, x := range []api.Edit{
		{Kind: api.EditAdd, Op: read(60, 9, 1, 5, 9)},
		{Kind: api.EditAdd, Op: read(25, 9, 1, 5, 9)},
		{Kind: api.EditAdd, Op: read(5, 9, 1, 5, 9)},
		{Kind: api.EditAdd, Op: read(20, 9, 1, 5, 9)},
		{Kind: api.EditDelete, Op: api.Op{ID: 10}},
		{Kind: api.EditDelete, Op: api.Op{ID: 50}},
		{Kind: api.EditTime, Op: api.Op{ID: 20, Invoke: 4, Return: 7}},
		{Kind: api.EditTime, Op: api.Op{ID: 20, Invoke: 7, Return: 7}},
		{Kind: api.EditLabel, Op: api.Op{ID: 20, Method: api.Write, Arg: 8}},
		{Kind: api.EditAnswer, Op: api.Op{ID: 40, Result: 8, Return: 8}},
		{Kind: api.EditPending, Op: api.Op{ID: 20}},
		{Kind: api.EditPending, Op: api.Op{ID: 10}},
	} {
		room := slices.Repeat([]api.Op{{ID: 77, Arg: 77}}, 70)
		l := room[:copy(room, some())]
		first, _, _, e := hist.Apply(l, x)
		second, _, _, _ := hist.Apply(l, x)
		keep := slices.Clone(second)
		for i := range first[:cap(first)] {
			first[:cap(first)][i] = api.Op{ID: -1}
		}
		if !slices.Equal(l, some()) || slices.ContainsFunc(room[len(l):], func(o api.Op) bool { return o != api.Op{ID: 77, Arg: 77} }) {
			t.Errorf("Apply of %+v, error %d, changes, or shares, what it is given", x, e)
		}
		if !slices.Equal(second, keep) {
			t.Errorf("two answers of Apply of %+v share memory", x)
		}
	}
	room := row(64)
	if next := done(t, room[:1], api.EditDelete, api.Op{ID: 10}); len(next) != 0 {
		t.Errorf("%+v is left of one that is taken out", next)
	}
	if hist.Check(room); !slices.Equal(room, row(64)) {
		t.Error("a Delete, or Check, changes what it is given")
	}
}

// TestNoCallPanics hands in lists that are no histories: nothing is promised of them but that the calls end.
func TestNoCallPanics(t *testing.T) {
	turned := row(64)
	slices.Reverse(turned)
	for _, l := range [][]api.Op{make([]api.Op, 3), make([]api.Op, 1000), turned, row(1000), slices.Repeat(some(), 9), {{ID: math.MaxInt}, {ID: math.MinInt}, {ID: 10, Done: true}}} {
		for kind := -1; kind <= 8; kind++ {
			for _, id := range append(numbers(), 10, 15, 640) {
				hist.Get(l, id)
				hist.Apply(l, api.Edit{Kind: kind, Op: read(id, 5, 5, 5, 9)})
				hist.Apply(l, api.Edit{Kind: kind, Op: api.Op{ID: id, Invoke: math.MinInt, Return: math.MaxInt}})
			}
		}
		hist.Check(l)
	}
}

package table_test

import (
	"fmt"
	"iter"
	"math"
	"slices"
	"testing"

	"annalist/api"
	"annalist/block"
	"annalist/btree"
	"annalist/key"
	"annalist/op"
	"annalist/pager"
	"annalist/store"
	"annalist/table"
)

// ways is how many ways there are.
const ways = 5

// is tells whether a call's error is that.
func is(t *testing.T, call string, got, want api.Errno) {
	t.Helper()
	if got != want {
		t.Errorf("%s: error %d, not %d", call, got, want)
	}
}

// disk is a disk with a pager that is made ready, and has so many pages to give out.
func disk(t *testing.T, pages int) *block.Disk {
	t.Helper()
	journal := pages + 20
	d, e := block.New(2 + journal + 2 + pages)
	if e != api.OK {
		t.Fatalf("a disk of %d pages: error %d", pages, e)
	}
	is(t, "store.Format", store.Format(d, journal), api.OK)
	p, _ := opened(t, d)
	is(t, "Format", p.Format(), api.OK)
	is(t, "Commit", p.Commit(), api.OK)
	return d
}

// opened is a disk's pager, and the store that it stands on.
func opened(t *testing.T, d *block.Disk) (*pager.Pager, *store.Store) {
	t.Helper()
	s, e := store.Open(d)
	if e != api.OK {
		t.Fatalf("store.Open: error %d", e)
	}
	p, e := pager.New(s)
	if e != api.OK {
		t.Fatalf("pager.New: error %d", e)
	}
	return p, s
}

// open is a pager's table.
func open(t *testing.T, p *pager.Pager) *table.Table {
	t.Helper()
	x, e := table.Open(p)
	if e != api.OK || x == nil {
		t.Fatalf("Open: %v, error %d", x, e)
	}
	return x
}

// ready is a pager with room enough, and a table with these operations.
func ready(t *testing.T, l ...api.Op) (*pager.Pager, *table.Table) {
	t.Helper()
	p, _ := opened(t, disk(t, 300))
	x := open(t, p)
	for _, o := range l {
		put(t, x, o)
	}
	return p, x
}

// put keeps an operation.
func put(t *testing.T, x *table.Table, o api.Op) {
	t.Helper()
	if e := x.Put(o); e != api.OK {
		t.Fatalf("Put(%+v): error %d", o, e)
	}
}

// committed is a disk with these operations.
func committed(t *testing.T, l ...api.Op) *block.Disk {
	t.Helper()
	d := disk(t, 200)
	p, _ := opened(t, d)
	x := open(t, p)
	for _, o := range l {
		put(t, x, o)
	}
	is(t, "Commit", p.Commit(), api.OK)
	return d
}

// off takes a disk's power away.
func off(t *testing.T, d *block.Disk) {
	t.Helper()
	d.Limit(0)
	is(t, "Flush", d.Flush(), api.ErrCrash)
}

// tree is the tree of a way.
func tree(t *testing.T, p *pager.Pager, way int) *btree.Tree {
	t.Helper()
	x, e := btree.Open(p, way)
	if e != api.OK {
		t.Fatalf("the tree of the way %d: error %d", way, e)
	}
	return x
}

// of is a key of so few numbers.
func of(l ...int) string {
	k, _ := key.Of(l...)
	return k
}

// record is how an operation is kept.
func record(o api.Op) string {
	s, _ := op.Encode(o)
	return s
}

// numbers are the numbers of an operation's key of a way.
func numbers(way int, o api.Op) []int {
	end := o.Return
	if !o.Done {
		end = 1<<40 + 1
	}
	switch way {
	case table.ByInvoke:
		return []int{o.Object, o.Invoke, o.ID}
	case table.ByReturn:
		return []int{o.Object, end, o.ID}
	case table.ByProc:
		return []int{o.Proc, o.Invoke, o.ID}
	case table.ByMethod:
		return []int{o.Method, o.ID}
	}
	return []int{o.ID}
}

// sorted are the operations in the order of a way's keys, of which only those are left that are asked for.
func sorted(l []api.Op, way int, asked func(n []int) bool) []api.Op {
	var left []api.Op
	for _, o := range l {
		if asked(numbers(way, o)) {
			left = append(left, o)
		}
	}
	slices.SortFunc(left, func(a, b api.Op) int { return slices.Compare(numbers(way, a), numbers(way, b)) })
	return left
}

// found are those that Find is to give.
func found(l []api.Op, way int, front ...int) []api.Op {
	return sorted(l, way, func(n []int) bool {
		return len(n) >= len(front) && slices.Equal(n[:len(front)], front)
	})
}

// ranged are those that Range is to give.
func ranged(l []api.Op, way int, front []int, from, to int) []api.Op {
	i := len(front)
	return sorted(l, way, func(n []int) bool {
		return len(n) > i && slices.Equal(n[:i], front) && from <= n[i] && n[i] <= to
	})
}

// gives tells whether that, and nothing else, is given.
func gives(t *testing.T, call string, got iter.Seq[api.Op], want ...api.Op) {
	t.Helper()
	if l := slices.Collect(got); !slices.Equal(l, want) {
		t.Errorf("%s gives %+v, not %+v", call, l, want)
	}
}

// has tells whether a table has these operations alone, handed in by rising numbers: every way finds each of them, and all is in order.
func has(t *testing.T, x *table.Table, l ...api.Op) {
	t.Helper()
	gives(t, "All", x.All(), l...)
	if got := x.List(); !slices.Equal(got, l) {
		t.Errorf("List = %+v, not %+v", got, l)
	}
	for _, o := range l {
		if got, e := x.Get(o.ID); got != o || e != api.OK {
			t.Errorf("Get(%d) = %+v, error %d, not %+v", o.ID, got, e, o)
		}
	}
	for way := range ways {
		gives(t, fmt.Sprintf("Find(%d)", way), x.Find(way), found(l, way)...)
		for _, o := range l {
			n := numbers(way, o)
			gives(t, fmt.Sprintf("Find(%d, %d)", way, n), x.Find(way, n...), o)
		}
	}
	if l := x.Troubles(); len(l) != 0 {
		t.Errorf("Troubles = %v", l)
	}
}

// hasNot tells that there is no operation of a number.
func hasNot(t *testing.T, x *table.Table, id int) {
	t.Helper()
	if o, e := x.Get(id); o != (api.Op{}) || e != api.ErrNone {
		t.Errorf("Get(%d) = %+v, error %d", id, o, e)
	}
	is(t, fmt.Sprintf("Delete(%d)", id), x.Delete(id), api.ErrNone)
}

// some are operations of several objects, processes and methods, two of which have no answer, and of which some share what ways go by.
func some() []api.Op {
	return []api.Op{
		{ID: 1, Proc: 7, Object: 3, Kind: api.Queue, Method: api.Enq, Arg: 5, Done: true, Invoke: 9, Return: 12},
		{ID: 2, Proc: 4, Object: 3, Kind: api.Queue, Method: api.Deq, Done: true, Result: -1, Invoke: 4, Return: 12},
		{ID: 5, Proc: 7, Object: 2, Kind: api.Counter, Method: api.Read, Done: true, Result: -8, Invoke: 20, Return: 21},
		{ID: 300, Proc: 4, Object: 3, Kind: api.Queue, Method: api.Enq, Arg: 6, Invoke: 13},
		{ID: 301, Proc: 5, Object: 2, Kind: api.Counter, Method: api.Inc, Invoke: 9},
		{ID: 70000, Proc: 0, Object: 0, Kind: api.Register, Method: api.Cas, Arg: 1, Second: 2, Done: true, Result: 1, Invoke: 0, Return: 1},
	}
}

// least and greatest are operations at the limits.
func least() api.Op {
	return api.Op{ID: 1, Kind: api.Register, Method: api.Read}
}

func greatest() api.Op {
	return api.Op{
		ID: 1 << 30, Proc: 1023, Object: 1023, Kind: api.Mutex, Method: api.Unlock,
		Done: true, Invoke: 1<<40 - 1, Return: 1 << 40,
	}
}

// strange are numbers that no operation has, or that might be taken for another one.
func strange() []int {
	return []int{math.MinInt, -1 << 32, -1, 0, 1<<30 + 1, 1 << 32, 1<<32 + 1, 1 << 56, math.MaxInt}
}

// P13.1

func TestOpen(t *testing.T) {
	_, x := ready(t)
	has(t, x)
	if l := x.Pages(); len(l) != 0 {
		t.Errorf("the pages of an empty table are %d", l)
	}
}

func TestOpenErrors(t *testing.T) {
	for _, p := range []*pager.Pager{nil, {}} {
		if x, e := table.Open(p); x != nil || e != api.ErrNil {
			t.Errorf("Open of none: %v, error %d", x, e)
		}
	}
	d, _ := block.New(20)
	is(t, "store.Format", store.Format(d, 17), api.OK)
	p, _ := opened(t, d)
	_, want := btree.Open(p, 0)
	if x, e := table.Open(p); x != nil || e == api.OK || e != want {
		t.Errorf("Open on a store of one page: %v, error %d, not %d", x, e, want)
	}
	d = disk(t, 30)
	p, _ = opened(t, d)
	off(t, d)
	if x, e := table.Open(p); x != nil || e != api.ErrCrash {
		t.Errorf("Open without power: %v, error %d", x, e)
	}
}

func TestOfNil(t *testing.T) {
	for _, x := range []*table.Table{nil, {}} {
		for _, o := range append(some(), api.Op{}) {
			if got, e := x.Get(o.ID); got != (api.Op{}) || e != api.ErrNil {
				t.Errorf("Get(%d) = %+v, error %d", o.ID, got, e)
			}
			is(t, "Put", x.Put(o), api.ErrNil)
			is(t, "Delete", x.Delete(o.ID), api.ErrNil)
		}
		gives(t, "All", x.All())
		x.All()(nil)
		for way := -1; way <= ways; way++ {
			gives(t, "Find", x.Find(way))
			gives(t, "Find", x.Find(way, 1))
			gives(t, "Range", x.Range(way, nil, math.MinInt, math.MaxInt))
		}
		if x.List() != nil || x.Pages() != nil || x.Troubles() != nil {
			t.Errorf("List = %v, Pages = %v, Troubles = %v", x.List(), x.Pages(), x.Troubles())
		}
	}
}

func TestGetPutDelete(t *testing.T) {
	l := some()
	_, x := ready(t)
	for _, i := range []int{3, 0, 5, 2, 4, 1} {
		hasNot(t, x, l[i].ID)
		put(t, x, l[i])
	}
	has(t, x, l...)
	for len(l) > 0 {
		i := len(l) / 2
		id := l[i].ID
		is(t, "Delete", x.Delete(id), api.OK)
		hasNot(t, x, id)
		l = slices.Delete(l, i, i+1)
		has(t, x, l...)
	}
	if l := x.Pages(); len(l) != 0 {
		t.Errorf("nothing is kept, and there are the pages %d", l)
	}
}

func TestOperationsAtTheLimits(t *testing.T) {
	_, x := ready(t, greatest(), least())
	has(t, x, least(), greatest())
	for _, id := range strange() {
		hasNot(t, x, id)
	}
	has(t, x, least(), greatest())
	is(t, "Delete", x.Delete(1<<30), api.OK)
	has(t, x, least())
}

func TestPutOfWhatMayNotBe(t *testing.T) {
	good := some()[0]
	_, x := ready(t, good)
	bad := map[api.Errno][]api.Op{}
	add := func(e api.Errno, change func(o *api.Op)) {
		o := good
		change(&o)
		bad[e] = append(bad[e], o)
	}
	for _, id := range strange() {
		add(api.ErrOp, func(o *api.Op) { o.ID = id })
	}
	for _, n := range []int{-1, 1024, math.MinInt, math.MaxInt} {
		add(api.ErrOp, func(o *api.Op) { o.Proc = n })
		add(api.ErrOp, func(o *api.Op) { o.Object, o.Method, o.Return = n, 0, 0 })
		add(api.ErrKind, func(o *api.Op) { o.Kind, o.Return = n, 0 })
		add(api.ErrKind, func(o *api.Op) { o.Method = n })
		add(api.ErrKind, func(o *api.Op) { o.Result = n })
	}
	add(api.ErrKind, func(o *api.Op) { o.Done, o.Return, o.Result = false, 0, 1 })
	add(api.ErrTime, func(o *api.Op) { o.Return = o.Invoke })
	add(api.ErrTime, func(o *api.Op) { o.Return = 1<<40 + 1 })
	add(api.ErrTime, func(o *api.Op) { o.Invoke = -1 })
	add(api.ErrTime, func(o *api.Op) { o.Done = false })
	bad[api.ErrOp] = append(bad[api.ErrOp], api.Op{})
	for want, l := range bad {
		for _, o := range l {
			is(t, fmt.Sprintf("Put(%+v)", o), x.Put(o), want)
		}
	}
	has(t, x, good)
}

func TestPutInThePlaceOfOne(t *testing.T) {
	l := some()
	_, x := ready(t, l...)
	changes := []func(o *api.Op){
		func(o *api.Op) {},
		func(o *api.Op) { o.Proc = 9 },
		func(o *api.Op) { o.Object = 8 },
		func(o *api.Op) { o.Kind, o.Method = api.Stack, api.Push },
		func(o *api.Op) { o.Arg = 77 },
		func(o *api.Op) { o.Invoke = 2 },
		func(o *api.Op) { o.Return = 1000 },
		func(o *api.Op) { o.Done, o.Return = false, 0 },
		func(o *api.Op) { o.Done, o.Return = true, 14 },
		func(o *api.Op) { o.Method, o.Arg, o.Result = api.Pop, 0, 3 },
		func(o *api.Op) { *o = least() },
		func(o *api.Op) { *o = some()[0] },
	}
	for _, change := range changes {
		change(&l[0])
		put(t, x, l[0])
		has(t, x, l...)
	}
}

func TestWhatTheTreesHave(t *testing.T) {
	l := some()
	p, x := ready(t, l...)
	o := l[1]
	o.Object, o.Proc, o.Invoke = 11, 12, 3
	put(t, x, o)
	l[1] = o
	is(t, "Delete", x.Delete(l[2].ID), api.OK)
	l = slices.Delete(l, 2, 3)
	for way := range ways {
		want := map[string]string{}
		for _, o := range l {
			want[of(numbers(way, o)...)] = ""
			if way == table.ByID {
				want[of(o.ID)] = record(o)
			}
		}
		n := 0
		for k, v := range tree(t, p, way).All() {
			if w, ok := want[k]; !ok || v != w {
				t.Errorf("the way %d has %q under %q", way, v, k)
			}
			n++
		}
		if n != len(want) {
			t.Errorf("the way %d has %d keys, not %d", way, n, len(want))
		}
	}
	for i := ways; i < pager.Roots; i++ {
		if at, e := p.Root(i); at != 0 || e != api.OK {
			t.Errorf("the root %d is %d, error %d", i, at, e)
		}
	}
}

func TestTablesOfOnePager(t *testing.T) {
	l := some()
	p, x := ready(t, l...)
	other := open(t, p)
	has(t, other, l...)
	is(t, "Delete", other.Delete(l[0].ID), api.OK)
	has(t, x, l[1:]...)
}

func TestWithoutPower(t *testing.T) {
	d := committed(t, some()...)
	p, _ := opened(t, d)
	x := open(t, p)
	off(t, d)
	if o, e := x.Get(1); o != (api.Op{}) || e != api.ErrCrash {
		t.Errorf("Get = %+v, error %d", o, e)
	}
	is(t, "Put", x.Put(some()[0]), api.ErrCrash)
	is(t, "Put of what may not be", x.Put(api.Op{}), api.ErrOp)
	is(t, "Delete", x.Delete(1), api.ErrCrash)
	for way := range ways {
		gives(t, "Find", x.Find(way))
		gives(t, "Range", x.Range(way, nil, 0, math.MaxInt))
	}
	if l := x.List(); len(l) != 0 {
		t.Errorf("List = %+v", l)
	}
}

// What was read last is at hand, so that the power is missed later.
func TestWithoutPowerHalfway(t *testing.T) {
	other := some()[0]
	other.Object = 99
	calls := []func(x *table.Table) api.Errno{
		func(x *table.Table) api.Errno { return x.Put(some()[0]) },
		func(x *table.Table) api.Errno { return x.Put(other) },
		func(x *table.Table) api.Errno { return x.Delete(1) },
	}
	for i, call := range calls {
		d := committed(t, some()...)
		p, _ := opened(t, d)
		x := open(t, p)
		x.Get(1)
		off(t, d)
		is(t, fmt.Sprintf("call %d", i), call(x), api.ErrCrash)
		d.Crash(0, 0, 0)
		p, _ = opened(t, d)
		has(t, open(t, p), some()...)
	}
}

func TestFindWithoutPowerHalfway(t *testing.T) {
	var l []api.Op
	for i := range 60 {
		o := greatest()
		o.ID, o.Object, o.Proc, o.Invoke, o.Return = i+1, i*7%60, i*11%60, i, i+1
		o.Method -= i * 13 % 2
		l = append(l, o)
	}
	d := committed(t, l...)
	for way := table.ByInvoke; way <= table.ByMethod; way++ {
		p, _ := opened(t, d)
		x := open(t, p)
		want := found(l, way)
		for range tree(t, p, way).All() {
		}
		x.Get(want[0].ID)
		x.Get(want[len(want)-1].ID)
		off(t, d)
		// The first and the last one can be read still, some between can't.
		got := slices.Collect(x.Find(way))
		if len(got) == 0 || len(got) == len(want) || !slices.Equal(got, want[:len(got)]) {
			t.Errorf("the way %d gives %d operations: %+v", way, len(got), got)
		}
		d.Crash(0, 0, 0)
	}
}

func TestWithoutSpace(t *testing.T) {
	for pages := range 40 {
		if pages == 0 {
			continue
		}
		p, _ := opened(t, disk(t, pages))
		x := open(t, p)
		var l []api.Op
		e := api.OK
		for id := 1; e == api.OK; id++ {
			o := greatest()
			o.ID, o.Proc = id, id%5
			if e = x.Put(o); e == api.OK {
				l = append(l, o)
				is(t, "Commit", p.Commit(), api.OK)
			}
		}
		is(t, "Put", e, api.ErrSpace)
		if len(l) == 0 && pages >= 5 {
			t.Errorf("nothing has room on %d pages", pages)
		}
		p.Back()
		has(t, x, l...)
	}
}

// A transaction has room for few pages: what a Put leaves as it is, is not written.
func TestPutWritesNoMoreThanItMust(t *testing.T) {
	d := disk(t, 100)
	p, s := opened(t, d)
	x := open(t, p)
	o := some()[0]
	put(t, x, o)
	is(t, "Commit", p.Commit(), api.OK)
	put(t, x, o)
	if l := s.Dirty(); len(l) != 0 {
		t.Errorf("what is there is written again: %d", l)
	}
	put(t, x, some()[1])
	is(t, "Commit", p.Commit(), api.OK)
	o.Proc = 100
	put(t, x, o)
	want := append(tree(t, p, table.ByID).Pages(), tree(t, p, table.ByProc).Pages()...)
	slices.Sort(want)
	if l := s.Dirty(); !slices.Equal(l, want) {
		t.Errorf("another Proc has the pages %d written, not %d", l, want)
	}
	has(t, x, o, some()[1])
}

// P13.2

func TestFindInvokedAhead(t *testing.T) {
	first := api.Op{ID: 8, Object: 3, Kind: api.Mutex, Method: api.Lock, Invoke: 9}
	second := api.Op{ID: 9, Object: 3, Proc: 1, Kind: api.Mutex, Method: api.Lock, Invoke: 4}
	_, x := ready(t, first, second)
	gives(t, "Find(ByInvoke, 3)", x.Find(table.ByInvoke, 3), second, first)
	gives(t, "Find(ByReturn, 3)", x.Find(table.ByReturn, 3), first, second)
}

func TestFind(t *testing.T) {
	l := append(some(), greatest())
	_, x := ready(t, l...)
	for way := range ways {
		for _, o := range append(l, least(), api.Op{Proc: 7, Object: 3, Method: 6, Invoke: 14, ID: 2}) {
			n := numbers(way, o)
			for size := range len(n) + 1 {
				front := n[:size]
				gives(t, fmt.Sprintf("Find(%d, %d)", way, front), x.Find(way, front...), found(l, way, front...)...)
			}
			for _, more := range [][]int{{0}, {o.ID}, {-1}, {math.MaxInt}, {math.MinInt}, {0, 0, 0}} {
				front := append(slices.Clone(n), more...)
				gives(t, fmt.Sprintf("Find(%d, %d)", way, front), x.Find(way, front...))
			}
		}
		for _, n := range strange() {
			gives(t, fmt.Sprintf("Find(%d, %d)", way, n), x.Find(way, n), found(l, way, n)...)
			gives(t, fmt.Sprintf("Find(%d, 3, %d)", way, n), x.Find(way, 3, n), found(l, way, 3, n)...)
		}
		gives(t, "Find of five numbers", x.Find(way, 3, 4, 2, 0, 0))
		gives(t, "Find of many numbers", x.Find(way, make([]int, 1000)...))
	}
}

func TestFindTheLastOfAll(t *testing.T) {
	l := []api.Op{least(), greatest()}
	_, x := ready(t, l...)
	gives(t, "Find(ByID, 2^30)", x.Find(table.ByID, 1<<30), greatest())
	for way := range ways {
		n := numbers(way, greatest())
		gives(t, fmt.Sprintf("Find(%d, %d)", way, n[0]), x.Find(way, n[0]), greatest())
	}
	late := greatest()
	late.Done, late.Return = false, 0
	put(t, x, late)
	gives(t, "Find(ByReturn, 1023, 2^40 + 1)", x.Find(table.ByReturn, 1023, 1<<40+1), late)
	gives(t, "Find(ByReturn, 1023, 0)", x.Find(table.ByReturn, 1023, 0))
}

func TestNoSuchWay(t *testing.T) {
	_, x := ready(t, some()...)
	for _, way := range []int{math.MinInt, -1, 5, 6, 15, 16, 1 << 32, math.MaxInt} {
		gives(t, fmt.Sprintf("Find(%d)", way), x.Find(way))
		gives(t, fmt.Sprintf("Find(%d, 3)", way), x.Find(way, 3))
		gives(t, fmt.Sprintf("Range(%d)", way), x.Range(way, nil, math.MinInt, math.MaxInt))
		gives(t, fmt.Sprintf("Range(%d, 3)", way), x.Range(way, []int{3}, 0, 100))
	}
}

func TestRange(t *testing.T) {
	l := append(some(), greatest())
	_, x := ready(t, l...)
	bounds := []int{math.MinInt, -1, 0, 1, 2, 3, 4, 5, 9, 10, 12, 13, 20, 300, 1 << 30, 1 << 40, 1<<40 + 1, math.MaxInt}
	for way := range ways {
		for _, front := range [][]int{nil, {2}, {3}, {4}, {7}, {1023}, {3, 4}, {3, 12}, {7, 9}, {6, 1}, {3, 4, 2}, {3, 12, 1}, {math.MaxInt}, {math.MaxInt, math.MaxInt, math.MaxInt}} {
			for _, from := range bounds {
				for _, to := range bounds {
					call := fmt.Sprintf("Range(%d, %d, %d, %d)", way, front, from, to)
					gives(t, call, x.Range(way, front, from, to), ranged(l, way, front, from, to)...)
				}
			}
		}
		for _, front := range [][]int{{3, 4, 2, 0}, make([]int, 4), make([]int, 5), make([]int, 1000)} {
			gives(t, fmt.Sprintf("Range of %d numbers", len(front)), x.Range(way, front, math.MinInt, math.MaxInt))
		}
	}
}

func TestUntilYieldIsFalse(t *testing.T) {
	_, x := ready(t, some()...)
	for _, give := range []iter.Seq[api.Op]{x.All(), x.Find(table.ByProc), x.Range(table.ByInvoke, nil, 0, 5)} {
		all := slices.Collect(give)
		for size := 1; size <= len(all); size++ {
			var got []api.Op
			give(func(o api.Op) bool {
				got = append(got, o)
				return len(got) < size
			})
			if !slices.Equal(got, all[:size]) {
				t.Errorf("till the operation %d: %+v", size, got)
			}
		}
		give(nil)
	}
	x.Find(table.ByID, 1, 2, 3, 4, 5)(nil)
	x.Find(9)(nil)
	x.Range(table.ByID, make([]int, 4), 0, 1)(nil)
}

func TestWhatIsHandedIn(t *testing.T) {
	l := some()
	_, x := ready(t, l...)
	spare := []int{3, 55, 66, 77}
	front := spare[:1]
	find := x.Find(table.ByInvoke, front...)
	give := x.Range(table.ByInvoke, front, 4, 9)
	gives(t, "Find", find, l[1], l[0], l[3])
	gives(t, "Range", give, l[1], l[0])
	if !slices.Equal(spare, []int{3, 55, 66, 77}) {
		t.Errorf("what was handed in is %d", spare)
	}
	spare[0] = 2
	gives(t, "Find, of what was handed in alone", find, l[1], l[0], l[3])
	gives(t, "Range, of what was handed in alone", give, l[1], l[0])
	got := x.List()
	got[0].Arg = 99
	has(t, x, l...)
}

// Who is given operations may put and delete them.
func TestChangedMeanwhile(t *testing.T) {
	for way := range ways {
		var l []api.Op
		for i := range 120 {
			l = append(l, api.Op{ID: i + 1, Proc: i % 7, Object: i % 5, Kind: api.Mutex, Method: api.Lock + i%2, Invoke: i * 37 % 120})
		}
		_, x := ready(t, l...)
		var got []api.Op
		for o := range x.Find(way) {
			got = append(got, o)
			is(t, "Delete", x.Delete(o.ID), api.OK)
			o.ID += 1000
			put(t, x, o)
		}
		if want := found(l, way); !slices.Equal(got, want) {
			t.Errorf("the way %d gives %d operations, not %d", way, len(got), len(want))
		}
		for i := range l {
			l[i].ID += 1000
		}
		has(t, x, l...)
	}
}

// P13.3

func TestOpenedAgain(t *testing.T) {
	l := some()
	d := disk(t, 100)
	p, _ := opened(t, d)
	x := open(t, p)
	for _, o := range l[:4] {
		put(t, x, o)
	}
	is(t, "Commit", p.Commit(), api.OK)
	put(t, x, l[4])
	is(t, "Delete", x.Delete(l[0].ID), api.OK)
	p, _ = opened(t, d)
	has(t, open(t, p), l[:4]...)
	x = open(t, p)
	put(t, x, l[4])
	is(t, "Delete", x.Delete(l[0].ID), api.OK)
	p.Back()
	has(t, x, l[:4]...)
	put(t, x, l[4])
	is(t, "Delete", x.Delete(l[0].ID), api.OK)
	is(t, "Commit", p.Commit(), api.OK)
	d.Crash(0, 0, 0)
	p, _ = opened(t, d)
	has(t, open(t, p), l[1:5]...)
}

// P13.4

func TestPages(t *testing.T) {
	p, x := ready(t)
	for i := range 150 {
		o := greatest()
		o.ID, o.Object = 1<<30-i*i, i%9
		put(t, x, o)
		var want []int
		for way := range ways {
			want = append(want, tree(t, p, way).Pages()...)
		}
		if got := x.Pages(); !slices.Equal(got, want) {
			t.Fatalf("%d operations: the pages %d, not %d", i+1, got, want)
		}
	}
	if l := x.Pages(); len(l) < 50 || len(l) != 300-p.Room() {
		t.Errorf("%d pages; the Room is %d", len(l), p.Room())
	}
}

// troubles tells whether these are all troubles; each is a way and a number.
func troubles(t *testing.T, x *table.Table, want ...[2]int) {
	t.Helper()
	var l [][2]int
	for _, o := range x.Troubles() {
		l = append(l, [2]int{o.Way, o.ID})
	}
	if !slices.Equal(l, want) {
		t.Errorf("Troubles = %v, not %v", l, want)
	}
}

// write has others put a record into the tree of a way.
func write(t *testing.T, p *pager.Pager, way int, record string, k ...int) {
	t.Helper()
	is(t, "btree.Put", tree(t, p, way).Put(of(k...), record), api.OK)
}

// erase has others take a key out of the tree of a way.
func erase(t *testing.T, p *pager.Pager, way int, k ...int) {
	t.Helper()
	is(t, "btree.Delete", tree(t, p, way).Delete(of(k...)), api.OK)
}

func TestOperationsThatAWayLacks(t *testing.T) {
	l := some()
	p, x := ready(t, l...)
	var want [][2]int
	for way := table.ByInvoke; way <= table.ByMethod; way++ {
		for _, i := range []int{way, 0} {
			erase(t, p, way, numbers(way, l[i])...)
		}
		want = append(want, [2]int{way, l[0].ID}, [2]int{way, l[way].ID})
	}
	troubles(t, x, want...)
	gives(t, "All", x.All(), l...)
	gives(t, "Find(ByMethod)", x.Find(table.ByMethod), found(slices.Concat(l[1:4], l[5:]), table.ByMethod)...)
}

func TestKeysThatLeadNowhere(t *testing.T) {
	for way := table.ByInvoke; way <= table.ByMethod; way++ {
		l := some()
		p, x := ready(t, l...)
		n := numbers(way, l[3])
		keys := [][]int{{-5}, {2}, {math.MaxInt}, n[:len(n)-1], append(slices.Clone(n), 300)}
		for i := range n {
			other := slices.Clone(n)
			other[i]++
			keys = append(keys, other)
		}
		var want [][2]int
		for _, k := range keys {
			write(t, p, way, "", k...)
			want = append(want, [2]int{way, 0})
		}
		is(t, "btree.Put", tree(t, p, way).Put("no key of numbers", ""), api.OK)
		troubles(t, x, append(want, [2]int{way, 0})...)
		gives(t, "Find", x.Find(way), found(l, way)...)
		gives(t, "Range", x.Range(way, nil, math.MinInt, math.MaxInt), found(l, way)...)
	}
}

func TestRecordsUnderKeysOfWays(t *testing.T) {
	l := some()
	p, x := ready(t, l...)
	var want [][2]int
	for way := table.ByInvoke; way <= table.ByMethod; way++ {
		write(t, p, way, record(l[2]), numbers(way, l[2])...)
		write(t, p, way, "\x00", numbers(way, l[0])...)
		want = append(want, [2]int{way, 0}, [2]int{way, 0})
	}
	troubles(t, x, want...)
	for way := range ways {
		gives(t, "Find", x.Find(way), found(l, way)...)
	}
}

func TestRecordsThatArentPutThere(t *testing.T) {
	l := some()
	for _, bad := range []string{"", "\x00", record(l[1]), record(l[0]) + "\x00", record(l[0])[1:], "\x81\x00" + record(l[0])[1:]} {
		p, x := ready(t, l...)
		write(t, p, table.ByID, bad, l[0].ID)
		hasNot(t, x, l[0].ID)
		troubles(t, x, [2]int{0, 0}, [2]int{1, 0}, [2]int{2, 0}, [2]int{3, 0}, [2]int{4, 0})
		gives(t, "All", x.All(), l[1:]...)
		for way := range ways {
			gives(t, "Find", x.Find(way), found(l[1:], way)...)
		}
		put(t, x, l[0])
		has(t, x, l...)
	}
}

func TestOperationsUnderOtherKeys(t *testing.T) {
	l := some()
	p, x := ready(t, l...)
	lost := least()
	lost.ID = 900
	write(t, p, table.ByID, record(lost), 901)
	write(t, p, table.ByID, record(lost), 900, 0)
	write(t, p, table.ByID, record(l[0]), 0)
	write(t, p, table.ByID, record(l[0]), -1)
	is(t, "btree.Put", tree(t, p, table.ByID).Put("?", record(l[0])), api.OK)
	hasNot(t, x, 900)
	hasNot(t, x, 901)
	hasNot(t, x, 0)
	hasNot(t, x, -1)
	gives(t, "All", x.All(), l...)
	gives(t, "Find", x.Find(table.ByID, 900))
	gives(t, "Range", x.Range(table.ByID, nil, math.MinInt, 1), l[0])
	troubles(t, x, [2]int{0, 0}, [2]int{0, 0}, [2]int{0, 0}, [2]int{0, 0}, [2]int{0, 0})
	// What others keep there alone, every other way lacks.
	write(t, p, table.ByID, record(lost), 900)
	got := x.Troubles()[5:]
	want := []table.Trouble{{Way: 1, ID: 900}, {Way: 2, ID: 900}, {Way: 3, ID: 900}, {Way: 4, ID: 900}}
	if !slices.Equal(got, want) {
		t.Errorf("Troubles ends with %v, not %v", got, want)
	}
}

func TestTheOrderOfTroubles(t *testing.T) {
	l := some()
	p, x := ready(t, l...)
	erase(t, p, table.ByProc, numbers(table.ByProc, l[5])...)
	erase(t, p, table.ByProc, numbers(table.ByProc, l[0])...)
	write(t, p, table.ByProc, "", 1000, 1000, 1000)
	write(t, p, table.ByInvoke, "", 0)
	write(t, p, table.ByID, "", 0)
	at, _ := p.Root(table.ByMethod)
	is(t, "Set", p.Set(at, "\xff\xff\xff\xff"), api.OK)
	want := [][2]int{{0, 0}, {1, 0}, {3, 0}, {3, 1}, {3, 70000}, {4, -1}}
	for _, o := range l {
		want = append(want, [2]int{4, o.ID})
	}
	troubles(t, x, want...)
}

func TestTreesThatArentSound(t *testing.T) {
	for way := range ways {
		l := some()
		p, x := ready(t, l...)
		at, _ := p.Root(way)
		is(t, "Free", p.Free(at), api.OK)
		var want [][2]int
		want = append(want, [2]int{way, -1})
		for i := range l {
			if way == table.ByID {
				for other := 1; other < ways; other++ {
					want = append(want, [2]int{other, 0})
				}
			} else {
				want = append(want, [2]int{way, l[i].ID})
			}
		}
		slices.SortStableFunc(want, func(a, b [2]int) int { return a[0] - b[0] })
		troubles(t, x, want...)
		gives(t, "Find", x.Find(way))
	}
}

// Calls go on past what others took out, or wrote, in the other ways.
func TestPutAndDeleteMend(t *testing.T) {
	l := some()
	p, x := ready(t, l...)
	for way := table.ByInvoke; way <= table.ByMethod; way++ {
		erase(t, p, way, numbers(way, l[0])...)
		write(t, p, way, "?", numbers(way, l[1])...)
		erase(t, p, way, numbers(way, l[2])...)
		erase(t, p, way, numbers(way, l[3])...)
	}
	put(t, x, l[0])
	put(t, x, l[1])
	is(t, "Delete", x.Delete(l[2].ID), api.OK)
	l[3].Object, l[3].Proc, l[3].Invoke, l[3].Method, l[3].Arg = 9, 9, 99, api.Deq, 0
	put(t, x, l[3])
	has(t, x, slices.Delete(l, 2, 3)...)
}

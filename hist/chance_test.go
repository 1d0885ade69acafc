package hist_test

import (
	"maps"
	"math/rand"
	"slices"
	"testing"

	"annalist/api"
	"annalist/hist"
	"annalist/op"
)

// standin is a history without an order: its operations under their numbers.
type standin map[int]api.Op

func (s standin) list() []api.Op {
	var l []api.Op
	for _, id := range slices.Sorted(maps.Keys(s)) {
		l = append(l, s[id])
	}
	return l
}

// end is when an operation is over: what has no answer is, in a history, over at the end of all times.
func end(o api.Op) int {
	if !o.Done {
		return api.MaxTime + 1
	}
	return o.Return
}

// wrong is what is wrong with an operation beside others.
func wrong(l []api.Op, o api.Op) api.Errno {
	e := api.OK
	for _, x := range l {
		if x.ID == o.ID {
			continue
		}
		if x.Object == o.Object && x.Kind != o.Kind {
			return api.ErrKind
		}
		if x.Proc == o.Proc && max(x.Invoke, o.Invoke) <= min(end(x), end(o)) {
			e = api.ErrBusy
		}
	}
	return e
}

// judge is P12.1's Check anew.
func judge(l []api.Op) api.Errno {
	if len(l) > 64 {
		return api.ErrMany
	}
	var faults []api.Errno
	last := 0
	for _, o := range l {
		faults = append(faults, op.Check(o))
		if o.ID <= last {
			faults = append(faults, api.ErrTwice)
		}
		last = o.ID
	}
	for _, o := range l {
		faults = append(faults, wrong(l, o))
	}
	for _, e := range faults {
		if e != api.OK {
			return e
		}
	}
	return api.OK
}

// behind is what an edit names, and all else as it was.
func behind(old api.Op, x api.Edit) api.Op {
	o := x.Op
	o.Proc, o.Object, o.Kind = old.Proc, old.Object, old.Kind
	if x.Kind != 4 {
		o.Method, o.Arg, o.Second = old.Method, old.Arg, old.Second
	}
	if x.Kind != 3 {
		o.Invoke = old.Invoke
	}
	switch x.Kind {
	case 3:
		o.Done, o.Result = old.Done, old.Result
	case 4:
		o.Done, o.Return = old.Done, old.Return
	case 5:
		o.Done = true
	case 6:
		o.Done, o.Result, o.Return = false, 0, 0
	}
	return o
}

// edit is P12.2 anew: the stand-in becomes what the history does; the operation as it was, and as it is.
func (s standin) edit(x api.Edit) (api.Op, api.Op, api.Errno) {
	old, has := s[x.Op.ID]
	o := x.Op
	if x.Kind < 1 || x.Kind > 6 {
		return api.Op{}, api.Op{}, api.ErrArg
	}
	if x.Kind != 1 {
		if !has {
			return api.Op{}, api.Op{}, api.ErrNone
		}
		if x.Kind == 5 && old.Done || x.Kind == 6 && !old.Done {
			return api.Op{}, api.Op{}, api.ErrState
		}
		o = behind(old, x)
	}
	if x.Kind == 2 {
		delete(s, old.ID)
		return old, api.Op{}, api.OK
	}
	e := op.Check(o)
	if e == api.OK && x.Kind == 1 && has {
		e = api.ErrTwice
	}
	if e == api.OK {
		e = wrong(s.list(), o)
	}
	if e == api.OK && x.Kind == 1 && len(s) == 64 {
		e = api.ErrMany
	}
	if e != api.OK {
		return api.Op{}, api.Op{}, e
	}
	s[o.ID] = o
	return old, o, api.OK
}

// source makes operations and edits by chance: of few numbers, processes and objects, so that they meet.
type source struct {
	*rand.Rand
	ids, procs, objects, times int
}

func (r source) label() (int, int, int, int, int) {
	switch r.Intn(9) {
	case 0:
		return api.Register, api.Read, 0, 0, r.Intn(3)
	case 1:
		return api.Register, api.Write, r.Intn(3), 0, 0
	case 2:
		return api.Register, api.Cas, r.Intn(3), r.Intn(3), r.Intn(2)
	case 3:
		return api.Counter, api.Read, 0, 0, r.Intn(5) - 2
	case 4:
		return api.Queue, api.Enq, r.Intn(3), 0, 0
	case 5:
		return api.Queue, api.Deq, 0, 0, r.Intn(3) - 1
	case 6:
		return api.Mutex, api.Lock, 0, 0, 0
	case 7:
		return api.Mutex, api.Unlock, 0, 0, 0
	}
	return r.Intn(8), r.Intn(16), r.Intn(4) - 1, r.Intn(3) - 1, r.Intn(5) - 2
}

func (r source) op() api.Op {
	o := api.Op{ID: 1 + r.Intn(r.ids), Proc: r.Intn(r.procs), Object: r.Intn(r.objects), Done: true, Invoke: r.Intn(r.times)}
	o.Kind, o.Method, o.Arg, o.Second, o.Result = r.label()
	// Most objects are of the kind of their number.
	for range 30 {
		if o.Kind != o.Object%7 {
			o.Kind, o.Method, o.Arg, o.Second, o.Result = r.label()
		}
	}
	o.Return = o.Invoke + 1 + r.Intn(1+r.times/10)
	switch r.Intn(20) {
	case 0:
		o.Return = o.Invoke
	case 1:
		o.Done = false
	case 2:
		o.Invoke = -1
	case 3:
		o.ID = 0
	case 4, 5, 6:
		o.Done, o.Result, o.Return = false, 0, 0
	}
	return o
}

func (r source) edit(l []api.Op) api.Edit {
	x := api.Edit{Kind: 1, Op: r.op()}
	if r.Intn(3) > 0 {
		x.Kind = r.Intn(8)
	}
	if x.Kind == 2 && r.Intn(3) > 0 {
		x.Kind = 3
	}
	if x.Kind > 1 && len(l) > 0 && r.Intn(8) > 0 {
		old := l[r.Intn(len(l))]
		x.Op.ID = old.ID
		if !old.Done && x.Kind == 3 {
			x.Op.Return = 0
		}
		if x.Kind == 5 {
			x.Op.Return = old.Invoke + r.Intn(4)
		}
	}
	return x
}

func sources() []source {
	var l []source
	for seed, x := range [][4]int{{6, 2, 2, 30}, {20, 4, 7, 200}, {90, 40, 14, 5000}, {400, 60, 14, 400}, {400, 900, 21, 100000}} {
		l = append(l, source{rand.New(rand.NewSource(int64(seed))), x[0], x[1], x[2], x[3]})
	}
	return l
}

// TestCheckByChance holds Check against the stand-in, of lists that may be histories or nearly are.
func TestCheckByChance(t *testing.T) {
	count := map[api.Errno]int{}
	for _, r := range sources() {
		for range 1000 {
			own := standin{}
			for range 1 + r.Intn(150) {
				own.edit(api.Edit{Kind: api.EditAdd, Op: r.op()})
			}
			l := own.list()
			for range r.Intn(3) {
				switch i := r.Intn(len(l) + 1); {
				case r.Intn(2) == 0 && i < len(l):
					l[i] = r.op()
				default:
					l = slices.Insert(l, i, r.op())
				}
			}
			if r.Intn(2) == 0 {
				slices.SortStableFunc(l, func(a, b api.Op) int { return a.ID - b.ID })
			}
			want := judge(l)
			count[want]++
			if e := hist.Check(l); e != want {
				t.Errorf("Check(%+v) = %d, not %d", l, e, want)
			}
		}
	}
	for _, e := range []api.Errno{api.OK, api.ErrMany, api.ErrOp, api.ErrKind, api.ErrTime, api.ErrTwice, api.ErrBusy} {
		if count[e] < 30 {
			t.Errorf("only %d lists are of the error %d", count[e], e)
		}
	}
}

// TestApplyByChance holds Apply, edit by edit, against the stand-in.
func TestApplyByChance(t *testing.T) {
	count := map[[2]int]int{}
	for _, r := range sources() {
		for range 30 {
			own, l := standin{}, []api.Op(nil)
			for range 400 {
				x := r.edit(l)
				next, was, is, e := hist.Apply(l, x)
				wantWas, wantIs, want := own.edit(x)
				count[[2]int{x.Kind, int(want)}]++
				if e != want || was != wantWas || is != wantIs {
					t.Fatalf("Apply(%+v, %+v) = %+v, %+v, %d, not %+v, %+v, %d", l, x, was, is, e, wantWas, wantIs, want)
				}
				if e != api.OK && len(next) != 0 {
					t.Fatalf("Apply(%+v, %+v), error %d, tells a history", l, x, e)
				}
				if e == api.OK {
					l = next
				}
				if !slices.Equal(l, own.list()) || hist.Check(l) != api.OK {
					t.Fatalf("behind %+v the history is %+v, not %+v", x, l, own.list())
				}
			}
			for id := range r.ids + 2 {
				if o, ok := hist.Get(l, id); o != own[id] || ok != (own[id].ID != 0) {
					t.Fatalf("Get(%+v, %d) = %+v, %t", l, id, o, ok)
				}
			}
		}
	}
	for _, x := range [][2]int{
		{0, 1}, {7, 1}, {1, 0}, {1, 30}, {1, 31}, {1, 7}, {1, 33}, {1, 32}, {1, 34}, {2, 0}, {2, 6}, {3, 0}, {3, 6}, {3, 31}, {3, 32},
		{4, 0}, {4, 6}, {4, 33}, {5, 0}, {5, 6}, {5, 8}, {5, 33}, {5, 31}, {6, 0}, {6, 6}, {6, 8}, {6, 32},
	} {
		if count[x] < 5 {
			t.Errorf("only %d edits of the kind %d are of the error %d", count[x], x[0], x[1])
		}
	}
}

// P12.3

// grown is a history made of edits by chance.
func grown(r source, edits int) []api.Op {
	var l []api.Op
	for range edits {
		if next, _, _, e := hist.Apply(l, r.edit(l)); e == api.OK {
			l = next
		}
	}
	return l
}

// back are the edits that take one back, by what the operation was and is.
func back(kind int, was, is api.Op) api.Edit {
	switch kind {
	case api.EditAdd:
		return api.Edit{Kind: api.EditDelete, Op: is}
	case api.EditDelete:
		return api.Edit{Kind: api.EditAdd, Op: was}
	case api.EditAnswer:
		return api.Edit{Kind: api.EditPending, Op: is}
	case api.EditPending:
		return api.Edit{Kind: api.EditAnswer, Op: was}
	}
	return api.Edit{Kind: kind, Op: was}
}

func TestEditsAreTakenBack(t *testing.T) {
	count := map[int]int{}
	for _, r := range sources() {
		for range 2000 {
			l := grown(r, r.Intn(90))
			x := r.edit(l)
			next, was, is, e := hist.Apply(l, x)
			if e != api.OK {
				continue
			}
			count[x.Kind]++
			if hist.Check(next) != api.OK {
				t.Errorf("%+v, edited by %+v, may not be: %+v", l, x, next)
			}
			last, lastWas, lastIs, e := hist.Apply(next, back(x.Kind, was, is))
			if e != api.OK || !slices.Equal(last, l) || lastWas != is || lastIs != was {
				t.Errorf("%+v of %+v isn't taken back: %+v, %+v, %+v, %d", x, l, last, lastWas, lastIs, e)
			}
		}
	}
	for kind := 1; kind <= 6; kind++ {
		if count[kind] < 10 {
			t.Errorf("only %d edits of the kind %d were taken back", count[kind], kind)
		}
	}
}

// orders are the orders of so many things.
func orders(size int) [][]int {
	if size == 0 {
		return [][]int{nil}
	}
	var l [][]int
	for _, x := range orders(size - 1) {
		for at := range size {
			l = append(l, slices.Insert(slices.Clone(x), at, size-1))
		}
	}
	return l
}

// along is the history behind edits in an order; false, if one of them is not let.
func along(l []api.Op, edits []api.Edit, order []int) ([]api.Op, bool) {
	for _, i := range order {
		next, _, _, e := hist.Apply(l, edits[i])
		if e != api.OK {
			return nil, false
		}
		l = next
	}
	return l, true
}

func TestTheOrderOfEditsDoesNotMatter(t *testing.T) {
	count := 0
	for _, r := range sources() {
		for range 3000 {
			l := grown(r, r.Intn(60))
			edits := []api.Edit{r.edit(l), r.edit(l), r.edit(l)}
			if a, b, c := edits[0].Op.ID, edits[1].Op.ID, edits[2].Op.ID; a == b || b == c || a == c {
				continue
			}
			var ends [][]api.Op
			for _, order := range orders(len(edits)) {
				if end, ok := along(l, edits, order); ok {
					ends = append(ends, end)
				}
			}
			if len(ends) < 6 {
				continue
			}
			count++
			for _, end := range ends {
				if !slices.Equal(end, ends[0]) {
					t.Errorf("%+v, edited by %+v, is %+v, or %+v", l, edits, end, ends[0])
				}
			}
		}
	}
	if count < 100 {
		t.Errorf("only %d times all orders were let", count)
	}
}

package model_test

import (
	"math"
	"math/rand"
	"slices"
	"strings"
	"testing"

	"annalist/api"
	"annalist/model"
)

// outcome is what Do answers.
type outcome struct {
	state  []int
	answer int
	ok     bool
}

func (x outcome) equal(y outcome) bool {
	return slices.Equal(x.state, y.state) && x.answer == y.answer && x.ok == y.ok
}

// edges are numbers at which something might turn.
func edges() []int {
	return []int{math.MinInt, math.MinInt + 1, -1<<31 - 1, -1 << 30, -65, -64, -2, -1, 0, 1, 2, 3, 63, 64, 127, 128, 1 << 30, 1<<30 + 1, 1 << 32, 1<<62 - 1, 1 << 62, math.MaxInt - 1, math.MaxInt}
}

// states are states of every kind, and lists that are the state of none.
func states() [][]int {
	l := [][]int{nil, {}, {3, 3}, {2, 1}, {1, 2, 2}, {1, 3, 2}, {2, 1, 3}, {1, 2}, {0, 0}, {math.MaxInt, math.MinInt}, {math.MinInt, math.MaxInt}, {-1, 0, 1, 2, 3}, {5, 4, 3, 2, 1}}
	for _, n := range edges() {
		l = append(l, []int{n})
	}
	var long []int
	for n := range 100 {
		long = append(long, 3*n-50)
	}
	return append(l, long)
}

// expect is P11.2 anew: by keys of kind and method, and without changing anything in its place.
func expect(state []int, o api.Op) outcome {
	one := len(state) == 1
	switch [2]int{o.Kind, o.Method} {
	case [2]int{1, 1}, [2]int{2, 1}:
		if one {
			return outcome{state, state[0], true}
		}
	case [2]int{1, 2}:
		if one {
			return outcome{[]int{o.Arg}, 0, true}
		}
	case [2]int{1, 3}:
		if one && state[0] == o.Arg {
			return outcome{[]int{o.Second}, 1, true}
		}
		if one {
			return outcome{state, 0, true}
		}
	case [2]int{2, 4}:
		if one {
			return outcome{[]int{state[0] + 1}, 0, true}
		}
	case [2]int{2, 5}:
		if one {
			return outcome{[]int{state[0] - 1}, 0, true}
		}
	case [2]int{3, 6}, [2]int{4, 8}:
		return outcome{slices.Concat(state, []int{o.Arg}), 0, true}
	case [2]int{3, 7}, [2]int{4, 9}:
		if len(state) == 0 {
			return outcome{nil, -1, true}
		}
		if o.Kind == 3 {
			return outcome{state[1:], state[0], true}
		}
		return outcome{state[:len(state)-1], state[len(state)-1], true}
	case [2]int{5, 10}, [2]int{5, 11}, [2]int{5, 12}:
		return expectSet(state, o)
	case [2]int{6, 13}:
		if len(state) == 0 {
			return outcome{[]int{o.Proc}, 0, true}
		}
	case [2]int{6, 14}:
		if one && state[0] == o.Proc {
			return outcome{nil, 0, true}
		}
	}
	return outcome{}
}

// expectSet is expect of a set: its members in a map, sorted again.
func expectSet(state []int, o api.Op) outcome {
	members := map[int]bool{}
	for i, n := range state {
		if i > 0 && state[i-1] >= n {
			return outcome{}
		}
		members[n] = true
	}
	had := members[o.Arg]
	answer := 0
	if had == (o.Method != 10) {
		answer = 1
	}
	switch o.Method {
	case 10:
		members[o.Arg] = true
	case 11:
		delete(members, o.Arg)
	}
	var l []int
	for n := range members {
		l = append(l, n)
	}
	slices.Sort(l)
	return outcome{l, answer, true}
}

// methods are the methods of a kind.
func methods(kind int) []int {
	return [][]int{1: {1, 2, 3}, 2: {1, 4, 5}, 3: {6, 7}, 4: {8, 9}, 5: {10, 11, 12}, 6: {13, 14}}[kind]
}

// do tells what Do answers, and sees to it that the state is as it was, and shared with no answer.
func do(t *testing.T, state []int, o api.Op) outcome {
	t.Helper()
	roomy := append(make([]int, 0, len(state)+9), state...)
	all := roomy[:cap(roomy)]
	for i := len(state); i < len(all); i++ {
		all[i] = 77
	}
	before := slices.Clone(all)
	s, n, ok := model.Do(roomy, o)
	got := outcome{slices.Clone(s), n, ok}
	spoil(s)
	if !slices.Equal(all, before) {
		t.Errorf("Do(%v, %+v) changes, or shares, its argument", state, o)
	}
	if !ok && (len(s) != 0 || n != 0) {
		t.Errorf("Do(%v, %+v) = %v, %d, false", state, o, got.state, n)
	}
	return got
}

// spoil writes over a list, and over its spare room.
func spoil(l []int) {
	l = l[:cap(l)]
	for i := range l {
		l[i] = -99
	}
}

// doing tells that Do answers so.
func doing(t *testing.T, state []int, o api.Op, want outcome) {
	t.Helper()
	if got := do(t, state, o); !got.equal(want) {
		t.Errorf("Do(%v, %+v) = %v, not %v", state, o, got, want)
	}
}

// chance is an operation of a kind, with small numbers, so that they meet.
func chance(r *rand.Rand, kind int) api.Op {
	l := methods(kind)
	return api.Op{Kind: kind, Method: l[r.Intn(len(l))], Proc: r.Intn(2), Arg: r.Intn(5), Second: r.Intn(5)}
}

// start is a state of a kind.
func start(r *rand.Rand, kind int) []int {
	switch kind {
	case 1, 2:
		return []int{r.Intn(5)}
	case 5:
		l := r.Perm(6)[:r.Intn(6)]
		slices.Sort(l)
		return l
	case 6:
		return []int{r.Intn(2)}[:r.Intn(2)]
	}
	return r.Perm(5)[:r.Intn(5)]
}

// chances are operations of a kind that can be done from a state on, some with their answers; and the state behind them.
func chances(r *rand.Rand, kind int, state []int, size int) ([]api.Op, []int) {
	var l []api.Op
	for range size {
		o := chance(r, kind)
		x := expect(state, o)
		if !x.ok {
			continue
		}
		if r.Intn(3) > 0 {
			o.Done, o.Result = true, x.answer
		}
		l, state = append(l, o), x.state
	}
	return l, state
}

// runs tells that Runs answers so, and leaves what it is given as it is.
func runs(t *testing.T, state []int, l []api.Op, want []int, ok bool) {
	t.Helper()
	roomy := append(make([]int, 0, len(state)+9), state...)
	all := roomy[:cap(roomy)]
	before, ops := slices.Clone(all), slices.Clone(l)
	s, done := model.Runs(roomy, l)
	if !slices.Equal(s, want) || done != ok {
		t.Errorf("Runs(%v, %+v) = %v, %t, not %v, %t", state, l, s, done, want, ok)
	}
	spoil(s)
	if !slices.Equal(all, before) || !slices.Equal(l, ops) {
		t.Errorf("Runs(%v, %+v) changes, or shares, its arguments", state, l)
	}
}

// P11.1

func TestFirst(t *testing.T) {
	l := edges()
	for n := -20; n <= 40; n++ {
		l = append(l, n)
	}
	for _, kind := range append(l, 1<<32+1, 1<<32+2, 257, 258) {
		var want []int
		if kind == 1 || kind == 2 {
			want = []int{0}
		}
		if s := model.First(kind); !slices.Equal(s, want) {
			t.Errorf("First(%d) = %v", kind, s)
		}
	}
}

func TestFirstIsNew(t *testing.T) {
	for kind := 1; kind <= 6; kind++ {
		want := slices.Clone(model.First(kind))
		spoil(model.First(kind))
		if s := model.First(kind); !slices.Equal(s, want) {
			t.Errorf("First(%d) = %v", kind, s)
		}
	}
}

// P11.2

func TestRegister(t *testing.T) {
	for _, c := range []struct {
		state          []int
		method         int
		arg, second    int
		behind, answer int
	}{
		{[]int{5}, api.Read, 0, 0, 5, 5},
		{[]int{-7}, api.Read, 3, 4, -7, -7},
		{[]int{5}, api.Write, 6, 0, 6, 0},
		{[]int{5}, api.Write, 5, 9, 5, 0},
		{[]int{5}, api.Write, -8, 0, -8, 0},
		{[]int{5}, api.Cas, 5, 7, 7, 1},
		{[]int{5}, api.Cas, 5, 5, 5, 1},
		{[]int{5}, api.Cas, 7, 5, 5, 0},
		{[]int{5}, api.Cas, 4, 7, 5, 0},
		{[]int{0}, api.Cas, 0, 0, 0, 1},
	} {
		o := api.Op{Kind: api.Register, Method: c.method, Arg: c.arg, Second: c.second}
		doing(t, c.state, o, outcome{[]int{c.behind}, c.answer, true})
	}
}

func TestCounter(t *testing.T) {
	for _, n := range edges() {
		doing(t, []int{n}, api.Op{Kind: api.Counter, Method: api.Read}, outcome{[]int{n}, n, true})
		doing(t, []int{n}, api.Op{Kind: api.Counter, Method: api.Inc, Arg: 4}, outcome{[]int{n + 1}, 0, true})
		doing(t, []int{n}, api.Op{Kind: api.Counter, Method: api.Dec, Arg: 4}, outcome{[]int{n - 1}, 0, true})
	}
}

func TestOneNumberIsNeeded(t *testing.T) {
	for _, kind := range []int{api.Register, api.Counter} {
		for _, m := range methods(kind) {
			for _, state := range [][]int{nil, {}, {0, 0}, {1, 2}, {2, 2, 2}} {
				doing(t, state, api.Op{Kind: kind, Method: m, Arg: 1, Second: 2}, outcome{})
			}
		}
	}
}

func TestQueueAndStack(t *testing.T) {
	for _, c := range []struct {
		state  []int
		kind   int
		method int
		arg    int
		want   outcome
	}{
		{nil, api.Queue, api.Enq, 4, outcome{[]int{4}, 0, true}},
		{[]int{1, 2}, api.Queue, api.Enq, 1, outcome{[]int{1, 2, 1}, 0, true}},
		{[]int{1, 2}, api.Queue, api.Deq, 0, outcome{[]int{2}, 1, true}},
		{[]int{9}, api.Queue, api.Deq, 0, outcome{nil, 9, true}},
		{[]int{-1}, api.Queue, api.Deq, 0, outcome{nil, -1, true}},
		{nil, api.Queue, api.Deq, 0, outcome{nil, -1, true}},
		{[]int{}, api.Queue, api.Deq, 5, outcome{nil, -1, true}},
		{nil, api.Stack, api.Push, 4, outcome{[]int{4}, 0, true}},
		{[]int{1, 2}, api.Stack, api.Push, 1, outcome{[]int{1, 2, 1}, 0, true}},
		{[]int{1, 2}, api.Stack, api.Pop, 0, outcome{[]int{1}, 2, true}},
		{[]int{9}, api.Stack, api.Pop, 0, outcome{nil, 9, true}},
		{nil, api.Stack, api.Pop, 0, outcome{nil, -1, true}},
		{[]int{}, api.Stack, api.Pop, 5, outcome{nil, -1, true}},
		{[]int{1}, api.Queue, api.Push, 1, outcome{}},
		{[]int{1}, api.Queue, api.Pop, 1, outcome{}},
		{[]int{1}, api.Stack, api.Enq, 1, outcome{}},
		{[]int{1}, api.Stack, api.Deq, 1, outcome{}},
	} {
		doing(t, c.state, api.Op{Kind: c.kind, Method: c.method, Arg: c.arg}, c.want)
	}
}

func TestSet(t *testing.T) {
	for _, c := range []struct {
		state  []int
		method int
		arg    int
		behind []int
		answer int
	}{
		{nil, api.Has, 0, nil, 0},
		{nil, api.Add, 0, []int{0}, 1},
		{nil, api.Remove, 0, nil, 0},
		{[]int{3}, api.Remove, 3, nil, 1},
		{[]int{1, 3}, api.Has, 1, []int{1, 3}, 1},
		{[]int{1, 3}, api.Has, 2, []int{1, 3}, 0},
		{[]int{1, 3}, api.Has, 3, []int{1, 3}, 1},
		{[]int{1, 3}, api.Has, 4, []int{1, 3}, 0},
		{[]int{1, 3}, api.Add, 0, []int{0, 1, 3}, 1},
		{[]int{1, 3}, api.Add, 1, []int{1, 3}, 0},
		{[]int{1, 3}, api.Add, 2, []int{1, 2, 3}, 1},
		{[]int{1, 3}, api.Add, 4, []int{1, 3, 4}, 1},
		{[]int{1, 3}, api.Add, -4, []int{-4, 1, 3}, 1},
		{[]int{1, 3}, api.Remove, 0, []int{1, 3}, 0},
		{[]int{1, 3}, api.Remove, 1, []int{3}, 1},
		{[]int{1, 3}, api.Remove, 2, []int{1, 3}, 0},
		{[]int{1, 3}, api.Remove, 3, []int{1}, 1},
	} {
		doing(t, c.state, api.Op{Kind: api.Set, Method: c.method, Arg: c.arg}, outcome{c.behind, c.answer, true})
	}
}

func TestMembersOfASetRise(t *testing.T) {
	for _, m := range methods(api.Set) {
		for _, state := range [][]int{{2, 1}, {1, 1}, {0, 0}, {1, 2, 2}, {1, 1, 2}, {3, 1, 2}, {1, 3, 2}, {math.MaxInt, math.MinInt}} {
			for arg := range 5 {
				doing(t, state, api.Op{Kind: api.Set, Method: m, Arg: arg}, outcome{})
			}
		}
	}
}

func TestMutex(t *testing.T) {
	lock, unlock := api.Op{Kind: api.Mutex, Method: api.Lock, Proc: 4}, api.Op{Kind: api.Mutex, Method: api.Unlock, Proc: 4}
	doing(t, nil, lock, outcome{[]int{4}, 0, true})
	doing(t, []int{}, lock, outcome{[]int{4}, 0, true})
	doing(t, nil, unlock, outcome{})
	doing(t, []int{4}, lock, outcome{})
	doing(t, []int{4}, unlock, outcome{nil, 0, true})
	for _, state := range [][]int{{3}, {0}, {5}, {-4}, {4, 4}, {4, 3}, {3, 4}} {
		doing(t, state, lock, outcome{})
		doing(t, state, unlock, outcome{})
	}
	lock.Proc, unlock.Proc = 0, 0
	doing(t, nil, lock, outcome{[]int{0}, 0, true})
	doing(t, []int{0}, unlock, outcome{nil, 0, true})
	doing(t, nil, unlock, outcome{})
}

func TestDoOfEveryKindAndMethod(t *testing.T) {
	kinds := append(edges(), 4, 5, 6, 7, 8, 257, 1<<32+1, 1<<32+5)
	for _, state := range states() {
		for _, kind := range kinds {
			for m := -2; m <= 17; m++ {
				for _, arg := range []int{0, 1, 2, 4, 5, -1, math.MinInt, math.MaxInt} {
					o := api.Op{Kind: kind, Method: m, Arg: arg, Second: 3, Proc: arg}
					doing(t, state, o, expect(state, o))
				}
			}
		}
	}
	for kind := 1; kind <= 6; kind++ {
		for _, m := range edges() {
			for _, state := range [][]int{nil, {1}, {1, 2}} {
				o := api.Op{Kind: kind, Method: m, Arg: 1, Proc: 1}
				doing(t, state, o, expect(state, o))
			}
		}
	}
}

func TestDoOfEdges(t *testing.T) {
	for kind := 1; kind <= 6; kind++ {
		for _, m := range methods(kind) {
			for _, state := range states() {
				for _, n := range edges() {
					for _, o := range []api.Op{{Arg: n}, {Second: n}, {Proc: n}, {Arg: n, Second: n, Proc: n}} {
						o.Kind, o.Method = kind, m
						doing(t, state, o, expect(state, o))
					}
				}
			}
		}
	}
}

func TestDoLooksAtNothingElse(t *testing.T) {
	r := rand.New(rand.NewSource(1102))
	for range 3000 {
		kind := 1 + r.Intn(6)
		state, o := start(r, kind), chance(r, kind)
		want := do(t, state, o)
		o.ID, o.Object, o.Done, o.Result = r.Intn(9)-4, r.Intn(9)-4, r.Intn(2) == 0, r.Intn(9)-4
		o.Invoke, o.Return = r.Intn(9)-4, r.Intn(9)-4
		if o.Method != api.Cas {
			o.Second = r.Int()
		}
		if kind != api.Mutex {
			o.Proc = r.Int()
		}
		doing(t, state, o, want)
	}
}

func TestDoAnswersNewMemory(t *testing.T) {
	for _, state := range [][]int{{1}, {1, 2}, {1, 2, 3}} {
		for kind := 1; kind <= 6; kind++ {
			for _, m := range methods(kind) {
				for arg := range 4 {
					o := api.Op{Kind: kind, Method: m, Arg: arg, Proc: 1}
					one, n, ok := model.Do(state, o)
					other, _, _ := model.Do(state, o)
					spoil(other)
					if want := expect(state, o); !want.equal(outcome{one, n, ok}) {
						t.Errorf("Do(%v, %+v) = %v once another answer is written over", state, o, one)
					}
				}
			}
		}
	}
}

// P11.3

func TestStep(t *testing.T) {
	r := rand.New(rand.NewSource(1103))
	for range 20000 {
		kind := 1 + r.Intn(6)
		state, o := start(r, kind), chance(r, kind)
		x := expect(state, o)
		o.Done, o.Result = r.Intn(2) == 0, x.answer+[]int{0, 0, 1, -1, math.MinInt}[r.Intn(5)]
		want := x.state
		ok := x.ok && (!o.Done || o.Result == x.answer)
		if !ok {
			want = nil
		}
		before := slices.Clone(state)
		got, done := model.Step(state, o)
		if !slices.Equal(got, want) || done != ok {
			t.Errorf("Step(%v, %+v) = %v, %t, not %v, %t", state, o, got, done, want, ok)
		}
		spoil(got)
		if !slices.Equal(state, before) {
			t.Errorf("Step(%v, %+v) changes, or shares, its argument", before, o)
		}
	}
}

func TestStepOfAnswers(t *testing.T) {
	for _, c := range []struct {
		state  []int
		o      api.Op
		behind []int
		ok     bool
	}{
		{[]int{5}, api.Op{Kind: 1, Method: api.Read, Done: true, Result: 5}, []int{5}, true},
		{[]int{5}, api.Op{Kind: 1, Method: api.Read, Done: true, Result: 4}, nil, false},
		{[]int{5}, api.Op{Kind: 1, Method: api.Read, Result: 4}, []int{5}, true},
		{[]int{5}, api.Op{Kind: 1, Method: api.Read}, []int{5}, true},
		{[]int{5}, api.Op{Kind: 1, Method: api.Write, Arg: 3, Done: true}, []int{3}, true},
		{[]int{5}, api.Op{Kind: 1, Method: api.Write, Arg: 3, Done: true, Result: 3}, nil, false},
		{nil, api.Op{Kind: 3, Method: api.Deq, Done: true, Result: -1}, nil, true},
		{nil, api.Op{Kind: 3, Method: api.Deq, Done: true}, nil, false},
		{nil, api.Op{Kind: 3, Method: api.Deq}, nil, true},
		{[]int{2}, api.Op{Kind: 6, Method: api.Lock, Done: true}, nil, false},
		{[]int{2}, api.Op{Kind: 6, Method: api.Lock}, nil, false},
		{nil, api.Op{Kind: 6, Method: api.Read, Done: true}, nil, false},
		{nil, api.Op{}, nil, false},
		{nil, api.Op{Done: true}, nil, false},
	} {
		if s, ok := model.Step(c.state, c.o); !slices.Equal(s, c.behind) || ok != c.ok {
			t.Errorf("Step(%v, %+v) = %v, %t", c.state, c.o, s, ok)
		}
	}
}

func TestRuns(t *testing.T) {
	r := rand.New(rand.NewSource(1113))
	for range 4000 {
		kind := 1 + r.Intn(6)
		state := start(r, kind)
		l, behind := chances(r, kind, state, r.Intn(30))
		runs(t, state, l, behind, true)
		for i, o := range l {
			if !o.Done {
				continue
			}
			wrong := slices.Clone(l)
			wrong[i].Result++
			runs(t, state, wrong, nil, false)
		}
		wrong := slices.Insert(slices.Clone(l), r.Intn(len(l)+1), api.Op{Kind: kind, Method: 20})
		runs(t, state, wrong, nil, false)
	}
}

func TestRunsOfNone(t *testing.T) {
	for _, state := range states() {
		runs(t, state, nil, state, true)
		runs(t, state, []api.Op{}, state, true)
	}
}

func TestRunsOfWhatCannotBeDone(t *testing.T) {
	lock, unlock := api.Op{Kind: 6, Method: api.Lock, Proc: 1}, api.Op{Kind: 6, Method: api.Unlock, Proc: 1}
	other := api.Op{Kind: 6, Method: api.Unlock, Proc: 2}
	runs(t, nil, []api.Op{lock, unlock, lock}, []int{1}, true)
	runs(t, nil, []api.Op{lock, lock}, nil, false)
	runs(t, nil, []api.Op{lock, other}, nil, false)
	runs(t, nil, []api.Op{unlock, lock}, nil, false)
	runs(t, nil, []api.Op{lock, other, lock, unlock}, nil, false)
	runs(t, []int{1, 2}, []api.Op{{Kind: 1, Method: api.Write, Arg: 1}}, nil, false)
	runs(t, []int{2, 1}, []api.Op{{Kind: 4, Method: api.Pop}, {Kind: 5, Method: api.Add, Arg: 1}}, []int{1, 2}, true)
	runs(t, []int{2, 1}, []api.Op{{Kind: 5, Method: api.Add, Arg: 1}, {Kind: 4, Method: api.Pop}}, nil, false)
}

func TestRunsOfMany(t *testing.T) {
	const size = 1 << 18
	var l []api.Op
	for n := range size {
		l = append(l, api.Op{Kind: api.Queue, Method: api.Enq, Arg: n, Done: true})
	}
	for n := range size - 1 {
		l = append(l, api.Op{Kind: api.Queue, Method: api.Deq, Done: true, Result: n})
	}
	if s, ok := model.Runs(nil, l); !slices.Equal(s, []int{size - 1}) || !ok {
		t.Errorf("Runs of many leaves %d numbers, %t", len(s), ok)
	}
}

// P11.4

func TestText(t *testing.T) {
	for _, c := range []struct {
		state []int
		s     string
	}{
		{nil, "\x00"},
		{[]int{0}, "\x01\x00"},
		{[]int{-1}, "\x01\x01"},
		{[]int{1}, "\x01\x02"},
		{[]int{-1, 5}, "\x02\x01\x0a"},
		{[]int{5, -1}, "\x02\x0a\x01"},
		{[]int{63, -64, 64, 150}, "\x04\x7e\x7f\x80\x01\xac\x02"},
		{[]int{math.MaxInt}, "\x01\xfe\xff\xff\xff\xff\xff\xff\xff\xff\x01"},
		{[]int{math.MinInt}, "\x01\xff\xff\xff\xff\xff\xff\xff\xff\xff\x01"},
		{make([]int, 127), "\x7f" + strings.Repeat("\x00", 127)},
		{make([]int, 128), "\x80\x01" + strings.Repeat("\x00", 128)},
		{make([]int, 300), "\xac\x02" + strings.Repeat("\x00", 300)},
	} {
		if s := model.Text(c.state); s != c.s {
			t.Errorf("Text(%v) = % x, not % x", c.state, s, c.s)
		}
		if state, size := model.State(c.s); !slices.Equal(state, c.state) || size != len(c.s) {
			t.Errorf("State(% x) = %v, %d", c.s, state, size)
		}
	}
}

func TestStateOfNone(t *testing.T) {
	many := strings.Repeat("\x00", 100)
	for _, s := range []string{
		"", "\x01", "\x02", "\x02\x05", "\x03\x01\x02", "\x7f" + many, "\x80\x01" + many,
		"\x80", "\xff\xff", "\x80\x00", "\x81\x00\x00", "\x80\x80\x00", // counts that end too early, or have groups too many
		"\x01\x80", "\x01\x80\x00", "\x02\x00\x81\x00", "\x01\xff", // so numbers
		"\x01" + strings.Repeat("\xff", 9) + "\x02", strings.Repeat("\xff", 9) + "\x02" + many, strings.Repeat("\xff", 10) + many,
		strings.Repeat("\xff", 9) + "\x01" + many, strings.Repeat("\xff", 8) + "\x7f" + many, "\x80\x80\x80\x80\x10" + many,
	} {
		if state, size := model.State(s); len(state) != 0 || size != 0 {
			t.Errorf("State(% x) = %v, %d", s, state, size)
		}
	}
	if state, size := model.State(strings.Repeat("\xff", 9) + "\x01" + strings.Repeat("\x00", 1<<20)); len(state) != 0 || size != 0 {
		t.Errorf("State of a count too great has %d bytes", size)
	}
}

func TestStateOfATextThatIsCut(t *testing.T) {
	for _, state := range states() {
		s := model.Text(state)
		for size := range len(s) {
			if got, n := model.State(s[:size]); len(got) != 0 || n != 0 {
				t.Errorf("State(% x) = %v, %d", s[:size], got, n)
			}
		}
	}
}

func TestStateOfBytesByChance(t *testing.T) {
	r := rand.New(rand.NewSource(1104))
	read := 0
	for range 30000 {
		b := make([]byte, r.Intn(12))
		for i := range b {
			b[i] = []byte{0, 1, 2, 3, 127, 128, 129, 255}[r.Intn(8)]
		}
		s := string(b)
		state, size := model.State(s)
		if size > len(s) || size == 0 && len(state) > 0 {
			t.Fatalf("State(% x) = %v, %d", s, state, size)
		}
		if size > 0 {
			read++
			if model.Text(state) != s[:size] {
				t.Errorf("State(% x) = %v, %d", s, state, size)
			}
		}
	}
	if read < 1000 {
		t.Errorf("only %d states", read)
	}
}

func TestTextChangesNothing(t *testing.T) {
	for _, state := range states() {
		before := slices.Clone(state)
		one, _ := model.State(model.Text(state))
		other, _ := model.State(model.Text(state))
		spoil(other)
		if !slices.Equal(state, before) || !slices.Equal(one, before) {
			t.Errorf("Text or State of %v share what they have", before)
		}
	}
}

// P11.5

func TestStateOfText(t *testing.T) {
	r := rand.New(rand.NewSource(1105))
	l := states()
	for range 2000 {
		var state []int
		for range r.Intn(200) {
			state = append(state, int(r.Uint64())>>r.Intn(64))
		}
		l = append(l, state)
	}
	seen := map[string][]int{}
	for _, state := range l {
		s := model.Text(state)
		if old, ok := seen[s]; ok && !slices.Equal(old, state) {
			t.Errorf("Text of %v is that of %v", state, old)
		}
		seen[s] = state
		for _, more := range []string{"", "\x00", "\x01", "\x7f", "\x80", "\xff", "ab", s} {
			if got, size := model.State(s + more); size != len(s) || !slices.Equal(got, state) {
				t.Errorf("State(% x) = %v, %d, not %v", s+more, got, size, state)
			}
		}
	}
}

func TestRunsOneBehindTheOther(t *testing.T) {
	r := rand.New(rand.NewSource(1115))
	for range 2000 {
		kind := 1 + r.Intn(6)
		state := start(r, kind)
		l, _ := chances(r, kind, state, r.Intn(20))
		if len(l) > 0 && r.Intn(3) == 0 {
			l[r.Intn(len(l))].Method = r.Intn(16)
		}
		want, ok := model.Runs(state, l)
		for at := range len(l) + 1 {
			middle, first := model.Runs(state, l[:at])
			behind, second := model.Runs(middle, l[at:])
			if !first {
				behind, second = nil, false
			}
			if second != ok || !slices.Equal(behind, want) {
				t.Errorf("Runs(%v, %+v) = %v, %t, but cut at %d %v, %t", state, l, want, ok, at, behind, second)
			}
		}
	}
}

func TestWhatComesBack(t *testing.T) {
	r := rand.New(rand.NewSource(1125))
	for size := range 40 {
		l := r.Perm(size)
		queue, stack := model.First(api.Queue), model.First(api.Stack)
		for _, n := range l {
			queue, _, _ = model.Do(queue, api.Op{Kind: api.Queue, Method: api.Enq, Arg: n})
			stack, _, _ = model.Do(stack, api.Op{Kind: api.Stack, Method: api.Push, Arg: n})
		}
		for i := range l {
			var first, last int
			queue, first, _ = model.Do(queue, api.Op{Kind: api.Queue, Method: api.Deq})
			stack, last, _ = model.Do(stack, api.Op{Kind: api.Stack, Method: api.Pop})
			if first != l[i] || last != l[size-1-i] {
				t.Errorf("of %v the queue gave back %d, the stack %d, as number %d", l, first, last, i)
			}
		}
		doing(t, queue, api.Op{Kind: api.Queue, Method: api.Deq}, outcome{nil, -1, true})
		doing(t, stack, api.Op{Kind: api.Stack, Method: api.Pop}, outcome{nil, -1, true})
	}
}

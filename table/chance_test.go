package table_test

import (
	"fmt"
	"maps"
	"math/rand"
	"slices"
	"testing"

	"annalist/api"
	"annalist/btree"
	"annalist/pager"
	"annalist/table"
)

// standin is a table without trees: its operations under their numbers.
type standin map[int]api.Op

func (s standin) list() []api.Op {
	var l []api.Op
	for _, id := range slices.Sorted(maps.Keys(s)) {
		l = append(l, s[id])
	}
	return l
}

// by is an operation by chance: of few numbers, times, objects and processes, so that they meet.
func by(r *rand.Rand) api.Op {
	o := api.Op{ID: 1 + r.Intn(60), Proc: r.Intn(4), Object: r.Intn(4), Kind: api.Stack, Method: api.Pop, Invoke: r.Intn(8)}
	if r.Intn(2) == 0 {
		o.Method, o.Arg = api.Push, r.Intn(3)
	}
	if r.Intn(3) > 0 {
		o.Done, o.Return = true, o.Invoke+1+r.Intn(8)
	}
	return o
}

// few are numbers by chance, as the ways' keys begin with.
func few(r *rand.Rand, most int) []int {
	var l []int
	for range r.Intn(most + 1) {
		l = append(l, r.Intn(10))
	}
	return l
}

// step makes a call by chance of a table, and of what it is to have; it tells the call, if it answers otherwise.
func step(r *rand.Rand, x *table.Table, want standin) string {
	o := by(r)
	old, in := want[o.ID]
	e := api.OK
	switch r.Intn(8) {
	case 0, 1, 2:
		if got := x.Put(o); got != e {
			return fmt.Sprintf("Put(%+v) = %d", o, got)
		}
		want[o.ID] = o
	case 3, 4:
		if !in {
			e = api.ErrNone
		}
		if got := x.Delete(o.ID); got != e {
			return fmt.Sprintf("Delete(%d) = %d, not %d", o.ID, got, e)
		}
		delete(want, o.ID)
	case 5:
		if !in {
			e = api.ErrNone
		}
		if o, got := x.Get(o.ID); o != old || got != e {
			return fmt.Sprintf("Get(%d) = %+v, %d, not %+v, %d", o.ID, o, got, old, e)
		}
	case 6:
		way, front := r.Intn(ways), few(r, 4)
		if got, l := slices.Collect(x.Find(way, front...)), found(want.list(), way, front...); !slices.Equal(got, l) {
			return fmt.Sprintf("Find(%d, %d) gives %+v, not %+v", way, front, got, l)
		}
	case 7:
		way, front, from, to := r.Intn(ways), few(r, 3), r.Intn(20)-5, r.Intn(20)-5
		if got, l := slices.Collect(x.Range(way, front, from, to)), ranged(want.list(), way, front, from, to); !slices.Equal(got, l) {
			return fmt.Sprintf("Range(%d, %d, %d, %d) gives %+v, not %+v", way, front, from, to, got, l)
		}
	}
	return ""
}

func TestCallsByChance(t *testing.T) {
	for seed := range int64(30) {
		r := rand.New(rand.NewSource(seed))
		d := disk(t, 120)
		p, _ := opened(t, d)
		x := open(t, p)
		safe, now := standin{}, standin{}
		for n := range 600 {
			if wrong := step(r, x, now); wrong != "" {
				t.Fatalf("seed %d, call %d: %s", seed, n, wrong)
			}
			switch r.Intn(50) {
			case 0:
				is(t, "Commit", p.Commit(), api.OK)
				safe = maps.Clone(now)
			case 1:
				p.Back()
				now = maps.Clone(safe)
			case 2:
				p, _ = opened(t, d)
				x = open(t, p)
				now = maps.Clone(safe)
			case 3:
				has(t, x, now.list()...)
			}
			if t.Failed() {
				t.Fatalf("seed %d, call %d", seed, n)
			}
		}
	}
}

func TestWhenThePowerGoes(t *testing.T) {
	before, behind, done := 0, 0, false
	for limit := 0; !done; limit++ {
		d := disk(t, 60)
		p, _ := opened(t, d)
		x := open(t, p)
		safe := some()
		for _, o := range safe {
			put(t, x, o)
		}
		is(t, "Commit", p.Commit(), api.OK)
		now := append(slices.Clone(safe[1:]), greatest())
		is(t, "Delete", x.Delete(safe[0].ID), api.OK)
		put(t, x, greatest())
		d.Limit(limit)
		done = p.Commit() == api.OK
		d.Crash(uint64(limit)*2654435761, limit%5, 20*limit%256)
		p, _ = opened(t, d)
		x = open(t, p)
		if slices.Equal(x.List(), now) {
			behind++
			has(t, x, now...)
		} else {
			before++
			has(t, x, safe...)
		}
	}
	if before == 0 || behind == 0 {
		t.Errorf("%d times as before, %d times as behind", before, behind)
	}
}

// records are what the tree of a way has.
type records map[string]string

// reads is the operation that the first way has under a key.
func reads(k, v string) (api.Op, bool) {
	for id := range 70 {
		if k != of(id) {
			continue
		}
		for _, o := range candidates() {
			if o.ID == id && record(o) == v {
				return o, true
			}
		}
	}
	return api.Op{}, false
}

// candidates are the operations that are kept, or forged, by chance.
func candidates() []api.Op {
	var l []api.Op
	for id := 1; id <= 12; id++ {
		l = append(l, api.Op{ID: id, Proc: id % 3, Object: id % 2, Kind: api.Mutex, Method: api.Lock, Invoke: id % 5})
		l = append(l, api.Op{ID: id, Proc: id % 2, Object: id % 3, Kind: api.Mutex, Method: api.Unlock, Done: true, Invoke: id % 4, Return: 9})
	}
	return l
}

// judged are the troubles, by what the trees have.
func judged(trees [ways]records) []table.Trouble {
	var all []api.Op
	for _, k := range slices.Sorted(maps.Keys(trees[0])) {
		if o, ok := reads(k, trees[0][k]); ok {
			all = append(all, o)
		}
	}
	var l []table.Trouble
	for way, kept := range trees {
		for _, k := range slices.Sorted(maps.Keys(kept)) {
			right := slices.ContainsFunc(all, func(o api.Op) bool { return of(numbers(way, o)...) == k })
			if !right || way > 0 && kept[k] != "" {
				l = append(l, table.Trouble{Way: way})
			}
		}
		for _, o := range all {
			if _, ok := kept[of(numbers(way, o)...)]; !ok {
				l = append(l, table.Trouble{Way: way, ID: o.ID})
			}
		}
	}
	return l
}

// forge has others write, or erase, a record of a way's tree.
func forge(r *rand.Rand, p *pager.Pager, trees [ways]records) api.Errno {
	way, l := r.Intn(ways), candidates()
	a, b := l[r.Intn(len(l))], l[r.Intn(len(l))]
	k, v := of(numbers(way, a)...), ""
	if way == 0 {
		v = record(b)
	}
	switch r.Intn(6) {
	case 0:
		k = of(numbers(r.Intn(ways), b)...)
	case 1:
		v = "?"
	}
	x, e := btree.Open(p, way)
	if e != api.OK {
		return e
	}
	if _, in := trees[way][k]; in && r.Intn(2) == 0 {
		delete(trees[way], k)
		return x.Delete(k)
	}
	trees[way][k] = v
	return x.Put(k, v)
}

func TestTroublesByChance(t *testing.T) {
	kinds := map[table.Trouble]int{}
	for seed := range int64(300) {
		r := rand.New(rand.NewSource(seed))
		p, x := ready(t)
		var trees [ways]records
		for way := range trees {
			trees[way] = records{}
		}
		l := candidates()
		for range 8 {
			o := l[r.Intn(len(l))]
			if trees[0][of(o.ID)] != "" {
				continue
			}
			put(t, x, o)
			for way := range trees {
				trees[way][of(numbers(way, o)...)] = ""
			}
			trees[0][of(o.ID)] = record(o)
		}
		for range r.Intn(12) {
			is(t, "a record that others write", forge(r, p, trees), api.OK)
			want := judged(trees)
			if got := x.Troubles(); !slices.Equal(got, want) {
				t.Fatalf("seed %d: Troubles = %v, not %v", seed, got, want)
			}
			for _, o := range want {
				kinds[table.Trouble{Way: o.Way, ID: min(o.ID, 1)}]++
			}
		}
	}
	// Each way has its troubles; but the first one lacks nothing.
	if len(kinds) != 2*ways-1 {
		t.Errorf("the troubles are of %d kinds: %v", len(kinds), kinds)
	}
}

package cut_test

import (
	"math/rand"
	"slices"
	"testing"

	"annalist/api"
	"annalist/cut"
	"annalist/hist"
	"annalist/op"
)

// ranked tells operations by invocations: each time the first one of those that none of the others is ahead of.
func ranked(l []api.Op) []api.Op {
	var out []api.Op
	left := slices.Clone(l)
	for len(left) > 0 {
		least := 0
		for i, o := range left {
			if x := left[least]; o.Invoke < x.Invoke || o.Invoke == x.Invoke && o.ID < x.ID {
				least = i
			}
		}
		out = append(out, left[least])
		left = slices.Delete(left, least, least+1)
	}
	return out
}

// parted is P14.1 anew: of every object that may be named, those operations that have it.
func parted(l []api.Op, low, high int) []api.Segment {
	var out []api.Segment
	for object := low; object <= high; object++ {
		own := slices.DeleteFunc(ranked(l), func(o api.Op) bool { return o.Object != object })
		if len(own) > 0 {
			out = append(out, api.Segment{Object: object, Kind: own[0].Kind, Ops: own})
		}
	}
	return out
}

// slashed is P14.2 anew: each operation is held against all of the piece.
func slashed(s api.Segment) []api.Segment {
	var out []api.Segment
	piece := api.Segment{Object: s.Object, Kind: s.Kind}
	for _, o := range ranked(s.Ops) {
		under := slices.ContainsFunc(piece.Ops, func(x api.Op) bool { return !op.Before(x, o) })
		if len(piece.Ops) > 0 && !under {
			out = append(out, piece)
			piece.Ops = nil
		}
		piece.Ops = append(piece.Ops, o)
	}
	if len(piece.Ops) > 0 {
		out = append(out, piece)
	}
	return out
}

// ends is P14.3's Span anew: by all times, sorted.
func ends(l []api.Op) (int, int) {
	var from []int
	to := []int{0}
	for _, o := range l {
		from, to = append(from, o.Invoke), append(to, o.Return)
		if !o.Done {
			to = append(to, 1<<40+1)
		}
	}
	if len(l) == 0 {
		return 0, 0
	}
	slices.Sort(from)
	slices.Sort(to)
	return from[0], to[len(to)-1]
}

// anything makes operations by chance, most of which may not be.
func anything(r *rand.Rand) []api.Op {
	var l []api.Op
	times, long := 1+r.Intn(60), 1+r.Intn(9)
	early, open := r.Intn(3)-1, r.Intn(30)
	for i := range r.Intn(40) {
		o := api.Op{ID: r.Intn(5), Proc: i, Object: r.Intn(6) - 2, Kind: r.Intn(4), Arg: i, Invoke: r.Intn(times) - 9, Done: r.Intn(30) >= open/5}
		o.Return = o.Invoke + r.Intn(long) - max(0, early)
		l = append(l, o)
	}
	return l
}

func TestAnythingByChance(t *testing.T) {
	r := rand.New(rand.NewSource(14))
	count := map[int]int{}
	for range 20000 {
		l := anything(r)
		objects(t, l, parted(l, -2, 3)...)
		s := api.Segment{Object: r.Intn(9), Kind: r.Intn(9), Ops: l}
		got, want := cut.Segments(s), slashed(s)
		count[len(want)]++
		if !same(got, want) {
			t.Fatalf("Segments(%+v) = %+v, not %+v", s, got, want)
		}
		from, to := ends(l)
		span(t, from, to, l...)
		for range 5 {
			a, b := r.Intn(80)-12, r.Intn(80)-12
			meets(t, l, a, b, len(l) > 0 && a <= to && b >= from)
		}
	}
	for size := range 10 {
		if count[size] < 50 {
			t.Errorf("only %d lists have %d pieces", count[size], size)
		}
	}
}

// P14.4

// history makes a history that may be, edit by edit.
func history(r *rand.Rand) []api.Op {
	var l []api.Op
	times, long := 20+r.Intn(2000), 1+r.Intn(40)
	for range r.Intn(150) {
		o := api.Op{ID: 1 + r.Intn(500), Proc: r.Intn(9), Object: r.Intn(4), Method: api.Read, Invoke: r.Intn(times)}
		o.Kind = api.Register + o.Object%2
		if r.Intn(25) > 0 {
			o.Done, o.Result, o.Return = true, r.Intn(3), o.Invoke+1+r.Intn(long)
		}
		if next, _, _, e := hist.Apply(l, api.Edit{Kind: api.EditAdd, Op: o}); e == api.OK {
			l = next
		}
	}
	return l
}

// together is the operations of pieces, one behind the other.
func together(l []api.Segment) []api.Op {
	var all []api.Op
	for _, s := range l {
		all = append(all, s.Ops...)
	}
	return all
}

// parts tells whether a piece's operations can be parted at a place: all ahead of it are before all behind it.
func parts(ahead, behind []api.Op) bool {
	return !slices.ContainsFunc(ahead, func(a api.Op) bool {
		return slices.ContainsFunc(behind, func(b api.Op) bool { return !op.Before(a, b) })
	})
}

// whole tells what is wrong with the segments of an object of a history that may be.
func whole(t *testing.T, s api.Segment) {
	t.Helper()
	pieces := cut.Segments(s)
	if !slices.Equal(together(pieces), s.Ops) {
		t.Errorf("the pieces %+v are not all of %+v", pieces, s)
	}
	for i, p := range pieces {
		if i > 0 && !parts(pieces[i-1].Ops, p.Ops) {
			t.Errorf("not all of %+v are before %+v", pieces[i-1], p)
		}
		for at := 1; at < len(p.Ops); at++ {
			if parts(p.Ops[:at], p.Ops[at:]) {
				t.Errorf("%+v can be cut ahead of %d", p, p.Ops[at].ID)
			}
		}
		if again := cut.Segments(p); !same(again, []api.Segment{p}) {
			t.Errorf("%+v is cut anew: %+v", p, again)
		}
		if i < len(pieces)-1 && slices.ContainsFunc(p.Ops, func(o api.Op) bool { return !o.Done }) {
			t.Errorf("%+v isn't the last one", p)
		}
		from, to := cut.Span(p.Ops)
		for j, other := range pieces {
			if cut.Meets(other.Ops, from, to) != (i == j) {
				t.Errorf("%+v meets %+v", p, other)
			}
		}
	}
}

func TestHistoriesByChance(t *testing.T) {
	r := rand.New(rand.NewSource(41))
	many, pendings := 0, 0
	for range 4000 {
		l := history(r)
		if e := hist.Check(l); e != api.OK {
			t.Fatalf("%+v may not be: error %d", l, e)
		}
		all := cut.Objects(l)
		back := together(all)
		slices.SortFunc(back, func(a, b api.Op) int { return a.ID - b.ID })
		if !slices.Equal(back, l) {
			t.Errorf("the objects %+v are not all of %+v", all, l)
		}
		for i, s := range all {
			if i > 0 && all[i-1].Object >= s.Object {
				t.Errorf("the objects of %+v don't rise", l)
			}
			if slices.ContainsFunc(s.Ops, func(o api.Op) bool { return o.Object != s.Object || o.Kind != s.Kind }) {
				t.Errorf("%+v has an operation of another object, or kind", s)
			}
			if len(cut.Segments(s)) > 1 {
				many++
			}
			if slices.ContainsFunc(s.Ops, func(o api.Op) bool { return !o.Done }) {
				pendings++
			}
			whole(t, s)
		}
	}
	if many < 1000 || pendings < 1000 {
		t.Errorf("only %d objects have several pieces, only %d an operation without an answer", many, pendings)
	}
}

// TestTheOrderOfTheListDoesNotMatter turns histories round: what is told hangs on the operations alone.
func TestTheOrderOfTheListDoesNotMatter(t *testing.T) {
	r := rand.New(rand.NewSource(7))
	for range 500 {
		l := history(r)
		want := cut.Objects(l)
		r.Shuffle(len(l), func(i, j int) { l[i], l[j] = l[j], l[i] })
		objects(t, l, want...)
		for _, s := range want {
			pieces := cut.Segments(s)
			turned := slices.Clone(s.Ops)
			r.Shuffle(len(turned), func(i, j int) { turned[i], turned[j] = turned[j], turned[i] })
			if got := cut.Segments(api.Segment{Object: s.Object, Kind: s.Kind, Ops: turned}); !same(got, pieces) {
				t.Errorf("Segments of %+v = %+v, not %+v", turned, got, pieces)
			}
		}
	}
}

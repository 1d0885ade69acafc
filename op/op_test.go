package op_test

import (
	"math"
	"math/rand"
	"strings"
	"testing"

	"annalist/api"
	"annalist/op"
)

// method is a row of the chapter's table, in its numbers: how many arguments are needed, and the least and greatest answers.
type method struct {
	kind, method, needs, low, high int
}

func methods() []method {
	return []method{
		{1, 1, 0, 0, 1 << 30},
		{1, 2, 1, 0, 0},
		{1, 3, 2, 0, 1},
		{2, 1, 0, -1 << 30, 1 << 30},
		{2, 4, 0, 0, 0},
		{2, 5, 0, 0, 0},
		{3, 6, 1, 0, 0},
		{3, 7, 0, -1, 1 << 30},
		{4, 8, 1, 0, 0},
		{4, 9, 0, -1, 1 << 30},
		{5, 10, 1, 0, 1},
		{5, 11, 1, 0, 1},
		{5, 12, 1, 0, 1},
		{6, 13, 0, 0, 0},
		{6, 14, 0, 0, 0},
	}
}

// fitting tells the table's row of a kind's method.
func fitting(kind, m int) (method, bool) {
	for _, x := range methods() {
		if x.kind == kind && x.method == m {
			return x, true
		}
	}
	return method{}, false
}

// numbers are those at which something turns: around 0, around each limit, and the least and greatest.
func numbers() []int {
	l := []int{math.MinInt, math.MinInt + 1, -1 << 62, -1 << 41, -1 << 40, -1<<31 - 1, math.MaxInt - 1, math.MaxInt, 1 << 62}
	for _, n := range []int{0, 5, 127, 128, 255, 256, 1023, 1024, 1 << 30, -1 << 30, 1 << 32, 1 << 40} {
		l = append(l, n-2, n-1, n, n+1, n+2)
	}
	return l
}

// done is an operation that may be, with the row's greatest arguments, and an answer.
func done(m method) api.Op {
	o := api.Op{ID: 9, Proc: 2, Object: 5, Kind: m.kind, Method: m.method, Done: true, Result: m.high, Invoke: 100, Return: 200}
	if m.needs >= 1 {
		o.Arg = 1 << 30
	}
	if m.needs >= 2 {
		o.Second = 1 << 30
	}
	return o
}

// pending is the operation without its answer.
func pending(o api.Op) api.Op {
	o.Done, o.Result, o.Return = false, 0, 0
	return o
}

// chance is an operation that may be.
func chance(r *rand.Rand) api.Op {
	pick := func(low, high int) int {
		switch r.Intn(4) {
		case 0:
			return low
		case 1:
			return high
		case 2:
			return low + r.Intn(min(high-low, 300)+1)
		}
		return low + r.Intn(high-low+1)
	}
	m := methods()[r.Intn(len(methods()))]
	o := api.Op{ID: pick(1, 1<<30), Proc: pick(0, 1023), Object: pick(0, 1023), Kind: m.kind, Method: m.method, Invoke: pick(0, 1<<40)}
	if m.needs >= 1 {
		o.Arg = pick(0, 1<<30)
	}
	if m.needs >= 2 {
		o.Second = pick(0, 1<<30)
	}
	if o.Invoke < 1<<40 && r.Intn(3) > 0 {
		o.Done, o.Result, o.Return = true, pick(m.low, m.high), pick(o.Invoke+1, 1<<40)
	}
	return o
}

// chances are operations that may be, of every method, with and without an answer.
func chances(seed int64, size int) []api.Op {
	r := rand.New(rand.NewSource(seed))
	var l []api.Op
	for _, m := range methods() {
		l = append(l, done(m), pending(done(m)))
	}
	for range size {
		l = append(l, chance(r))
	}
	return l
}

// groups writes a number as bits.Var is said to: groups of seven bits, the lowest first.
func groups(n uint64) string {
	s := ""
	for ; n > 127; n /= 128 {
		s += string([]byte{byte(n%128 + 128)})
	}
	return s + string([]byte{byte(n)})
}

// record writes numbers one behind the other.
func record(l ...uint64) string {
	s := ""
	for _, n := range l {
		s += groups(n)
	}
	return s
}

// parts are the numbers of the record of an operation that may be, as P10.2 says.
func parts(o api.Op) []uint64 {
	var l []uint64
	for _, n := range []int{o.ID, o.Proc, o.Object, o.Kind, o.Method, o.Arg, o.Second, o.Invoke} {
		l = append(l, uint64(n))
	}
	if !o.Done {
		return l
	}
	folded := 2 * o.Result
	if o.Result < 0 {
		folded = -2*o.Result - 1
	}
	return append(l, uint64(o.Return-o.Invoke), uint64(folded))
}

func check(t *testing.T, o api.Op, want api.Errno) {
	t.Helper()
	if e := op.Check(o); e != want {
		t.Errorf("Check(%+v) = %d, not %d", o, e, want)
	}
	s, e := op.Encode(o)
	if e != want || want != api.OK && s != "" {
		t.Errorf("Encode(%+v) = % x, %d, not %d", o, s, e, want)
	}
}

// refused tells that a text is no operation's record.
func refused(t *testing.T, s string) {
	t.Helper()
	if o, e := op.Decode(s); e != api.ErrBad || o != (api.Op{}) {
		t.Errorf("Decode(% x) = %+v, %d", s, o, e)
	}
}

// P10.1

func TestFits(t *testing.T) {
	l := []int{math.MinInt, -1 << 32, -256, math.MaxInt, 1 << 32, 1<<32 + 1, 256, 257}
	for n := -20; n <= 40; n++ {
		l = append(l, n)
	}
	count := 0
	for _, kind := range l {
		for _, m := range l {
			_, want := fitting(kind, m)
			if got := op.Fits(kind, m); got != want {
				t.Errorf("Fits(%d, %d) = %t", kind, m, got)
			} else if got {
				count++
			}
		}
	}
	if count != 15 {
		t.Errorf("%d methods fit", count)
	}
}

func TestFitsByNames(t *testing.T) {
	for _, x := range []struct {
		kind    int
		methods []int
	}{
		{api.Register, []int{api.Read, api.Write, api.Cas}},
		{api.Counter, []int{api.Read, api.Inc, api.Dec}},
		{api.Queue, []int{api.Enq, api.Deq}},
		{api.Stack, []int{api.Push, api.Pop}},
		{api.Set, []int{api.Add, api.Remove, api.Has}},
		{api.Mutex, []int{api.Lock, api.Unlock}},
	} {
		for _, m := range x.methods {
			if !op.Fits(x.kind, m) {
				t.Errorf("Fits(%d, %d) is false", x.kind, m)
			}
		}
	}
}

func TestCheckNumbers(t *testing.T) {
	fault := func(ok bool) api.Errno {
		if ok {
			return api.OK
		}
		return api.ErrOp
	}
	for _, m := range methods() {
		for _, o := range []api.Op{done(m), pending(done(m))} {
			for _, n := range numbers() {
				x := o
				x.ID = n
				check(t, x, fault(n >= 1 && n <= 1<<30))
				x = o
				x.Proc = n
				check(t, x, fault(n >= 0 && n <= 1023))
				x = o
				x.Object = n
				check(t, x, fault(n >= 0 && n <= 1023))
			}
		}
	}
	check(t, api.Op{}, api.ErrOp)
}

func TestCheckMethods(t *testing.T) {
	for _, kind := range append(numbers(), 1, 2, 3, 4, 5, 6, 7, 8) {
		for m := -2; m <= 20; m++ {
			want := api.ErrKind
			if _, ok := fitting(kind, m); ok {
				want = api.OK
			}
			check(t, api.Op{ID: 1, Kind: kind, Method: m}, want)
			check(t, api.Op{ID: 1, Kind: kind, Method: m, Done: true, Return: 1}, want)
		}
	}
}

func TestCheckArguments(t *testing.T) {
	fault := func(n int, needed bool) api.Errno {
		if n == 0 || needed && n > 0 && n <= 1<<30 {
			return api.OK
		}
		return api.ErrKind
	}
	for _, m := range methods() {
		for _, o := range []api.Op{done(m), pending(done(m))} {
			for _, n := range numbers() {
				x := o
				x.Arg = n
				check(t, x, fault(n, m.needs >= 1))
				x = o
				x.Second = n
				check(t, x, fault(n, m.needs >= 2))
			}
		}
	}
}

func TestCheckResults(t *testing.T) {
	for _, m := range methods() {
		for _, n := range numbers() {
			o := done(m)
			o.Result = n
			want := api.ErrKind
			if n >= m.low && n <= m.high {
				want = api.OK
			}
			check(t, o, want)
			o = pending(o)
			o.Result = n
			want = api.ErrKind
			if n == 0 {
				want = api.OK
			}
			check(t, o, want)
		}
	}
	o := api.Op{ID: 1, Kind: api.Queue, Method: api.Deq, Done: true, Result: -1, Return: 1}
	check(t, o, api.OK)
	o.Kind = api.Stack
	check(t, o, api.ErrKind)
}

func TestCheckTimes(t *testing.T) {
	const last = 1 << 40
	for _, m := range methods() {
		for _, from := range numbers() {
			fits := from >= 0 && from <= last
			for _, to := range append(numbers(), from-1, from, from+1) {
				o := done(m)
				o.Invoke, o.Return = from, to
				want := api.ErrTime
				if fits && to > from && to <= last {
					want = api.OK
				}
				check(t, o, want)
				o = pending(o)
				o.Return = to
				want = api.ErrTime
				if fits && to == 0 {
					want = api.OK
				}
				check(t, o, want)
			}
		}
	}
}

func TestCheckAnswersTheFirstError(t *testing.T) {
	for _, m := range methods() {
		for bad := range 8 {
			for way := range 27 {
				o, want := done(m), api.OK
				if way >= 18 {
					o = pending(o)
				}
				if bad&1 != 0 {
					want = api.ErrTime
					o.Invoke, o.Return = [3]int{-1, 1<<40 + 1, 7}[way%3], [3]int{9, 1<<40 + 2, 7}[way%3]
				}
				if bad&2 != 0 {
					want = api.ErrKind
					switch way / 3 % 3 {
					case 0:
						o.Method += 20
					case 1:
						o.Arg = -1
					case 2:
						o.Result = 1<<30 + 1
					}
				}
				if bad&4 != 0 {
					want = api.ErrOp
					if way%2 == 0 {
						o.ID = 0
					} else {
						o.Proc = 1024
					}
				}
				check(t, o, want)
			}
		}
	}
}

// P10.2

func TestEncode(t *testing.T) {
	for _, c := range []struct {
		o api.Op
		s string
	}{
		{api.Op{ID: 1, Kind: 6, Method: 13}, "\x01\x00\x00\x06\x0d\x00\x00\x00"},
		{api.Op{ID: 300, Proc: 7, Object: 8, Kind: 1, Method: 3, Arg: 128, Second: 3, Invoke: 4}, "\xac\x02\x07\x08\x01\x03\x80\x01\x03\x04"},
		{api.Op{ID: 4, Proc: 1, Kind: 3, Method: 6, Arg: 5, Done: true, Invoke: 2, Return: 9}, "\x04\x01\x00\x03\x06\x05\x00\x02\x07\x00"},
		{api.Op{ID: 2, Kind: 4, Method: 9, Done: true, Result: -1, Return: 1}, "\x02\x00\x00\x04\x09\x00\x00\x00\x01\x01"},
		{api.Op{ID: 2, Kind: 2, Method: 1, Done: true, Result: -150, Invoke: 1, Return: 301}, "\x02\x00\x00\x02\x01\x00\x00\x01\xac\x02\xab\x02"},
		{api.Op{ID: 2, Kind: 1, Method: 1, Done: true, Result: 150, Invoke: 1, Return: 3}, "\x02\x00\x00\x01\x01\x00\x00\x01\x02\xac\x02"},
	} {
		if s, e := op.Encode(c.o); s != c.s || e != api.OK {
			t.Errorf("Encode(%+v) = % x, %d, not % x", c.o, s, e, c.s)
		}
		if o, e := op.Decode(c.s); o != c.o || e != api.OK {
			t.Errorf("Decode(% x) = %+v, %d, not %+v", c.s, o, e, c.o)
		}
	}
	for _, o := range chances(102, 3000) {
		if s, e := op.Encode(o); s != record(parts(o)...) || e != api.OK {
			t.Errorf("Encode(%+v) = % x, %d", o, s, e)
		}
	}
}

func TestDecodeOfAnotherLength(t *testing.T) {
	for _, o := range chances(12, 300) {
		s := record(parts(o)...)
		for size := range len(s) {
			// A record that ends where its answer begins is that of the operation without one.
			if o.Done && s[:size] == record(parts(pending(o))...) {
				continue
			}
			refused(t, s[:size])
		}
		for _, more := range []string{"\x00", "\x01", "\x80", "\xff", "\x00\x00\x00", s, strings.Repeat("\x01", 100), strings.Repeat("\x80", 1<<12)} {
			refused(t, s+more)
		}
		refused(t, "\x00"+s)
	}
	for size := range 40 {
		for _, c := range []string{"\x00", "\x80", "\xff"} {
			refused(t, strings.Repeat(c, size))
		}
	}
	refused(t, strings.Repeat("\x01", 1<<16))
}

func TestDecodeOfNumbersWrittenOtherwise(t *testing.T) {
	for _, o := range chances(22, 200) {
		l := parts(o)
		for i, n := range l {
			ahead, behind := record(l[:i]...), record(l[i+1:]...)
			s := groups(n)
			longer := s[:len(s)-1] + string([]byte{s[len(s)-1] | 128})
			for _, x := range []string{longer + "\x00", longer + "\x80\x00", longer, "", "\x80", "\xff\xff\xff\xff\xff\xff\xff\xff\xff\x02"} {
				if got, e := op.Decode(ahead + x + behind); e == api.OK && record(parts(got)...) != ahead+x+behind {
					t.Errorf("Decode(% x) = %+v", ahead+x+behind, got)
				}
			}
			refused(t, ahead+longer+"\x00"+behind)
			refused(t, ahead+"\xff\xff\xff\xff\xff\xff\xff\xff\xff\x02"+behind)
		}
	}
}

func TestDecodeOfGreatNumbers(t *testing.T) {
	for _, o := range chances(32, 200) {
		for i, n := range parts(o) {
			great := []uint64{1 << 41, 1 << 62, 1<<63 - 1, 1 << 63, 1<<63 + 1, math.MaxUint64 - 1, math.MaxUint64}
			great = append(great, n|1<<42, n|1<<63) // n, if the bit is lost
			if i != 7 && i != 8 {                   // the times may have more than 32 bits
				great = append(great, n|1<<32)
			}
			if i == 8 { // as if it returned at a number that wraps round
				from := uint64(o.Invoke)
				great = append(great, -from, -from-1, 1<<41-from, 1<<63-1-from, 1<<63-from, math.MaxUint64-from)
			}
			for _, high := range great {
				l := parts(o)
				l[i] = high
				refused(t, record(l...))
			}
		}
	}
}

func TestDecodeOfWhatMayNotBe(t *testing.T) {
	good := []uint64{9, 2, 5, 3, 7, 0, 0, 100, 50, 0}
	if _, e := op.Decode(record(good...)); e != api.OK {
		t.Fatalf("Decode(% x): error %d", record(good...), e)
	}
	for _, c := range []struct {
		at int
		n  uint64
	}{
		{0, 0}, {0, 1<<30 + 1}, {1, 1024}, {2, 1024}, {3, 0}, {3, 1}, {3, 4}, {3, 7}, {4, 0}, {4, 9}, {4, 15}, {5, 1}, {6, 1},
		{7, 1 << 40}, {7, 1<<40 - 49}, {7, 1<<40 + 1}, {8, 0}, {8, 1<<40 - 99}, {8, 1 << 40}, {9, 3}, {9, 1<<31 + 1}, {9, 1<<31 + 2},
	} {
		l := append([]uint64{}, good...)
		l[c.at] = c.n
		refused(t, record(l...))
	}
}

// TestDecodeJustWhatEncodeWrites holds texts that are near to records against what Encode would write.
func TestDecodeJustWhatEncodeWrites(t *testing.T) {
	r := rand.New(rand.NewSource(42))
	right := 0
	for _, o := range chances(42, 4000) {
		b := []byte(record(parts(o)...))
		for range 1 + r.Intn(2) {
			b[r.Intn(len(b))] = [4]byte{0, 1, 128, byte(r.Intn(256))}[r.Intn(4)]
		}
		got, e := op.Decode(string(b))
		if e != api.OK {
			refused(t, string(b))
			continue
		}
		right++
		if op.Check(got) != api.OK || record(parts(got)...) != string(b) {
			t.Errorf("Decode(% x) = %+v", b, got)
		}
	}
	if right < 100 {
		t.Errorf("only %d texts were records", right)
	}
}

// P10.3

func TestBeforeAndOverlap(t *testing.T) {
	l := []int{math.MinInt, -1, 0, 1, 4, 5, 6, 1 << 40, 1<<40 + 1, math.MaxInt}
	var all []api.Op
	for _, from := range l {
		for _, to := range l {
			all = append(all, api.Op{Invoke: from, Return: to}, api.Op{Done: true, Invoke: from, Return: to})
		}
	}
	for _, a := range all {
		for _, b := range all {
			ahead := a.Done && a.Return < b.Invoke
			behind := b.Done && b.Return < a.Invoke
			if got := op.Before(a, b); got != ahead {
				t.Errorf("Before(%+v, %+v) = %t", a, b, got)
			}
			if got := op.Overlap(a, b); got != (!ahead && !behind) {
				t.Errorf("Overlap(%+v, %+v) = %t", a, b, got)
			}
		}
	}
}

func TestOneReturnedAsTheOtherIsInvoked(t *testing.T) {
	a := api.Op{ID: 1, Kind: 1, Method: 1, Done: true, Invoke: 1, Return: 5}
	for _, c := range []struct {
		from            int
		before, overlap bool
	}{{4, false, true}, {5, false, true}, {6, true, false}} {
		b := api.Op{ID: 2, Proc: 1, Object: 3, Kind: 1, Method: 1, Invoke: c.from}
		if op.Before(a, b) != c.before || op.Before(b, a) {
			t.Errorf("Before of one that returns at 5, and one invoked at %d", c.from)
		}
		if op.Overlap(a, b) != c.overlap || op.Overlap(b, a) != c.overlap {
			t.Errorf("Overlap of one that returns at 5, and one invoked at %d", c.from)
		}
	}
	p := api.Op{ID: 3, Kind: 1, Method: 1}
	late := api.Op{ID: 4, Kind: 1, Method: 1, Invoke: 1 << 40}
	if op.Before(p, late) || !op.Overlap(p, late) {
		t.Error("what has no answer is ahead of something")
	}
}

// P10.4

func TestDecodeOfEncodeIsTheOperation(t *testing.T) {
	for _, o := range chances(4, 3000) {
		s, e := op.Encode(o)
		if e != api.OK || len(s) > 64 {
			t.Errorf("Encode(%+v) = % x, %d", o, s, e)
		}
		if got, e := op.Decode(s); got != o || e != api.OK {
			t.Errorf("Decode(Encode(%+v)) = %+v, %d", o, got, e)
		}
	}
	o := api.Op{ID: 1 << 30, Proc: 1023, Object: 1023, Kind: 1, Method: 3, Arg: 1 << 30, Second: 1 << 30, Done: true, Result: 1, Invoke: 1<<40 - 1, Return: 1 << 40}
	for _, x := range []api.Op{o, pending(o), {ID: 1 << 30, Proc: 1023, Object: 1023, Kind: 2, Method: 1, Done: true, Result: -1 << 30, Return: 1 << 40}} {
		s, e := op.Encode(x)
		if got, f := op.Decode(s); e != api.OK || f != api.OK || got != x || len(s) > 64 {
			t.Errorf("Decode(Encode(%+v)) = %+v, %d, %d", x, got, e, f)
		}
	}
}

func TestBeforeGoesOn(t *testing.T) {
	l := []api.Op{}
	for from := range 6 {
		l = append(l, api.Op{ID: 1, Kind: 1, Method: 1, Invoke: from})
		for to := from + 1; to <= 6; to++ {
			l = append(l, api.Op{ID: 1, Kind: 1, Method: 1, Done: true, Invoke: from, Return: to})
		}
	}
	l = append(l, chances(44, 40)...)
	for _, a := range l {
		if op.Check(a) != api.OK || op.Before(a, a) || !op.Overlap(a, a) {
			t.Errorf("%+v is before itself, or may not be", a)
		}
		for _, b := range l {
			for _, c := range l {
				if op.Before(a, b) && op.Before(b, c) && !op.Before(a, c) {
					t.Errorf("Before ends: %+v, %+v, %+v", a, b, c)
				}
			}
		}
	}
}

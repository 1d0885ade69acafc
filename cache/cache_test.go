package cache_test

import (
	"fmt"
	"math"
	"math/rand"
	"slices"
	"testing"

	"annalist/api"
	"annalist/cache"
)

// pair is a key, and what is kept under it.
type pair[K comparable, V any] struct {
	k K
	v V
}

// made is a cache of at most so many.
func made[K comparable, V any](t *testing.T, most int) *cache.Cache[K, V] {
	t.Helper()
	c, e := cache.New[K, V](most)
	if c == nil || e != api.OK {
		t.Fatalf("New(%d): error %d", most, e)
	}
	return c
}

// filled is a cache of at most so many, into which these keys are put, under each its number, from 1 on.
func filled(t *testing.T, most int, keys ...string) *cache.Cache[string, int] {
	t.Helper()
	c := made[string, int](t, most)
	for i, k := range keys {
		stays(t, c, k, i+1)
	}
	return c
}

// stays puts a value for which nothing goes.
func stays[K comparable, V any](t *testing.T, c *cache.Cache[K, V], k K, v V) {
	t.Helper()
	var none K
	if out, gone, e := c.Put(k, v); out != none || gone || e != api.OK {
		t.Errorf("Put(%v, %v) = %v, %t, %d: nothing should go", k, v, out, gone, e)
	}
}

// goes puts a value for which another one goes.
func goes[K comparable, V any](t *testing.T, c *cache.Cache[K, V], k K, v V, want K) {
	t.Helper()
	if out, gone, e := c.Put(k, v); out != want || !gone || e != api.OK {
		t.Errorf("Put(%v, %v) = %v, %t, %d: %v should go", k, v, out, gone, e, want)
	}
}

// full puts a value that there is no room for.
func full[K comparable, V any](t *testing.T, c *cache.Cache[K, V], k K, v V) {
	t.Helper()
	var none K
	if out, gone, e := c.Put(k, v); out != none || gone || e != api.ErrFull {
		t.Errorf("Put(%v, %v) = %v, %t, %d: all are pinned", k, v, out, gone, e)
	}
}

// got asks for a value that is kept.
func got[K comparable, V comparable](t *testing.T, c *cache.Cache[K, V], k K, want V) {
	t.Helper()
	if v, ok := c.Get(k); v != want || !ok {
		t.Errorf("Get(%v) = %v, %t, not %v", k, v, ok, want)
	}
}

// missed asks for a value that isn't kept.
func missed[K comparable, V comparable](t *testing.T, c *cache.Cache[K, V], k K) {
	t.Helper()
	var none V
	if v, ok := c.Get(k); v != none || ok {
		t.Errorf("Get(%v) = %v, %t: nothing is kept", k, v, ok)
	}
}

// is holds what a call tells against what it should tell.
func is(t *testing.T, what string, told, want bool) {
	t.Helper()
	if told != want {
		t.Errorf("%s = %t", what, told)
	}
}

// given is what All gives.
func given[K comparable, V any](c *cache.Cache[K, V]) []pair[K, V] {
	var l []pair[K, V]
	c.All()(func(k K, v V) bool {
		l = append(l, pair[K, V]{k, v})
		return true
	})
	return l
}

// keys holds the keys that All gives, and how many Len tells, against what they should be.
func keys[K comparable, V any](t *testing.T, c *cache.Cache[K, V], want ...K) {
	t.Helper()
	var l []K
	for _, p := range given(c) {
		l = append(l, p.k)
	}
	if !slices.Equal(l, want) || c.Len() != len(want) {
		t.Errorf("%v are kept, %d of them, not %v", l, c.Len(), want)
	}
}

// P6.1

func TestNewOfWrongSizes(t *testing.T) {
	for _, most := range []int{0, -1, -2, -1024, math.MinInt32, math.MinInt, 1025, 1026, 2048, math.MaxInt32, math.MaxInt} {
		if c, e := cache.New[int, int](most); c != nil || e != api.ErrArg {
			t.Errorf("New(%d): error %d", most, e)
		}
	}
}

func TestNewIsEmpty(t *testing.T) {
	for _, most := range []int{1, 2, 3, 1023, 1024} {
		c := made[int, string](t, most)
		keys(t, c)
		missed(t, c, 0)
		is(t, "Pin(0)", c.Pin(0), false)
		is(t, "Unpin(0)", c.Unpin(0), false)
		is(t, "Drop(0)", c.Drop(0), false)
	}
}

func TestSoManyAreKept(t *testing.T) {
	for _, most := range []int{1, 2, 3, 17, 1023, api.MaxPages} {
		c := made[int, int](t, most)
		for k := range most {
			stays(t, c, k, -k)
			if c.Len() != k+1 {
				t.Fatalf("of %d keys %d are kept", k+1, c.Len())
			}
		}
		for k := range 3 * most {
			goes(t, c, most+k, -most-k, k)
			if c.Len() != most {
				t.Fatalf("%d are kept, not %d", c.Len(), most)
			}
		}
		for k := 3 * most; k < 4*most; k++ {
			got(t, c, k, -k)
		}
	}
}

func TestLen(t *testing.T) {
	c := made[string, int](t, 2)
	for i, step := range []struct {
		do   func()
		want int
	}{
		{func() {}, 0},
		{func() { c.Put("a", 1) }, 1},
		{func() { c.Put("a", 2) }, 1},
		{func() { c.Get("a"); c.Get("b") }, 1},
		{func() { c.Put("b", 3) }, 2},
		{func() { c.Put("c", 4) }, 2},
		{func() { c.Pin("b"); c.Pin("c"); c.Put("d", 5) }, 2},
		{func() { c.Drop("d") }, 2},
		{func() { c.Drop("b") }, 1},
		{func() { c.Drop("b") }, 1},
		{func() { c.Drop("c") }, 0},
	} {
		if step.do(); c.Len() != step.want {
			t.Errorf("behind step %d %d are kept, not %d", i, c.Len(), step.want)
		}
	}
}

func TestWhatNoCallMadeKeepsNothing(t *testing.T) {
	var none *cache.Cache[string, int]
	var zero cache.Cache[string, int]
	for _, c := range []*cache.Cache[string, int]{none, &zero, new(cache.Cache[string, int])} {
		for _, k := range []string{"", "a", "a"} {
			if out, gone, e := c.Put(k, 1); out != "" || gone || e != api.ErrNil {
				t.Errorf("Put(%q) = %q, %t, %d", k, out, gone, e)
			}
			missed(t, c, k)
			is(t, "Pin", c.Pin(k), false)
			is(t, "Unpin", c.Unpin(k), false)
			is(t, "Drop", c.Drop(k), false)
			keys(t, c)
		}
		for k := range c.All() {
			t.Errorf("All gives %q", k)
		}
	}
}

// P6.2

func TestGet(t *testing.T) {
	c := filled(t, 3, "a", "b", "c")
	got(t, c, "a", 1)
	got(t, c, "b", 2)
	got(t, c, "c", 3)
	for _, k := range []string{"", "d", "A", "ab", "a\x00"} {
		missed(t, c, k)
	}
}

func TestGetUses(t *testing.T) {
	c := filled(t, 4, "a", "b", "c", "d")
	for _, step := range []struct {
		k    string
		want []string
	}{
		{"d", []string{"d", "c", "b", "a"}},
		{"a", []string{"a", "d", "c", "b"}},
		{"c", []string{"c", "a", "d", "b"}},
		{"x", []string{"c", "a", "d", "b"}},
		{"a", []string{"a", "c", "d", "b"}},
		{"b", []string{"b", "a", "c", "d"}},
		{"", []string{"b", "a", "c", "d"}},
	} {
		c.Get(step.k)
		keys(t, c, step.want...)
	}
	goes(t, c, "e", 5, "d")
	keys(t, c, "e", "b", "a", "c")
}

func TestPutUnderAKeyThatIsKept(t *testing.T) {
	c := filled(t, 3, "a", "b", "c")
	stays(t, c, "a", 7)
	keys(t, c, "a", "c", "b")
	got(t, c, "a", 7)
	stays(t, c, "c", 0)
	keys(t, c, "c", "a", "b")
	got(t, c, "c", 0)
	got(t, c, "b", 2)
	goes(t, c, "d", 4, "a")
}

func TestPutUnderAKeyThatIsKeptLeavesItsPins(t *testing.T) {
	c := filled(t, 2, "a", "b")
	c.Pin("a")
	c.Pin("a")
	stays(t, c, "a", 7)
	stays(t, c, "b", 8)
	goes(t, c, "c", 9, "b")
	is(t, "the first Unpin", c.Unpin("a"), true)
	goes(t, c, "d", 10, "c")
	is(t, "the second Unpin", c.Unpin("a"), true)
	is(t, "the third Unpin", c.Unpin("a"), false)
	goes(t, c, "e", 11, "a")
}

func TestPutUnderAKeyThatIsKeptWhereAllArePinned(t *testing.T) {
	c := filled(t, 2, "a", "b")
	c.Pin("a")
	c.Pin("b")
	stays(t, c, "a", 7)
	keys(t, c, "a", "b")
	got(t, c, "a", 7)
	full(t, c, "c", 3)
}

func TestPutLetsGoWhatWasUsedLongestAgo(t *testing.T) {
	c := filled(t, 3, "a", "b", "c")
	goes(t, c, "d", 4, "a")
	missed(t, c, "a")
	got(t, c, "b", 2)
	goes(t, c, "a", 5, "c")
	keys(t, c, "a", "b", "d")
	got(t, c, "a", 5)
	goes(t, c, "e", 6, "d")
	goes(t, c, "f", 7, "b")
	goes(t, c, "g", 8, "a")
	keys(t, c, "g", "f", "e")
}

func TestPutPassesOverWhatIsPinned(t *testing.T) {
	for _, pins := range []struct {
		on, goes string
	}{
		{"", "a"}, {"b", "a"}, {"d", "a"}, {"a", "b"}, {"ab", "c"}, {"ac", "b"}, {"abc", "d"}, {"abd", "c"}, {"acd", "b"}, {"bcd", "a"},
	} {
		c := filled(t, 4, "a", "b", "c", "d")
		for _, k := range pins.on {
			is(t, "Pin", c.Pin(string(k)), true)
		}
		goes(t, c, "e", 5, pins.goes)
		want := slices.DeleteFunc([]string{"e", "d", "c", "b", "a"}, func(k string) bool { return k == pins.goes })
		keys(t, c, want...)
		got(t, c, "e", 5)
	}
}

func TestWhatIsPutHasNoPin(t *testing.T) {
	c := filled(t, 1, "a")
	is(t, "Unpin of a first one", c.Unpin("a"), false)
	goes(t, c, "b", 2, "a")
	is(t, "Unpin of one in another's place", c.Unpin("b"), false)
	c.Pin("b")
	c.Drop("b")
	stays(t, c, "b", 3)
	is(t, "Unpin of one that was dropped", c.Unpin("b"), false)
	c.Pin("b")
	c.Unpin("b")
	goes(t, c, "c", 4, "b")
	goes(t, c, "b", 5, "c")
	is(t, "Unpin of one that was gone", c.Unpin("b"), false)
}

func TestPutWhereAllArePinnedChangesNothing(t *testing.T) {
	c := filled(t, 3, "a", "b", "c")
	for _, k := range []string{"a", "b", "c"} {
		c.Pin(k)
	}
	for range 3 {
		full(t, c, "d", 4)
		missed(t, c, "d")
		is(t, "Pin of what was refused", c.Pin("d"), false)
		if l := given(c); !slices.Equal(l, []pair[string, int]{{"c", 3}, {"b", 2}, {"a", 1}}) {
			t.Errorf("%v are kept", l)
		}
	}
	for _, k := range []string{"a", "b", "c"} {
		is(t, "Unpin", c.Unpin(k), true)
		is(t, "another Unpin", c.Unpin(k), false)
	}
	goes(t, c, "d", 4, "a")
}

func TestOneAlone(t *testing.T) {
	c := filled(t, 1, "a")
	c.Pin("a")
	full(t, c, "b", 2)
	c.Unpin("a")
	goes(t, c, "b", 2, "a")
	keys(t, c, "b")
	stays(t, c, "b", 3)
	got(t, c, "b", 3)
	c.Drop("b")
	keys(t, c)
	stays(t, c, "c", 4)
	keys(t, c, "c")
}

func TestZerosAreKeptAsOthersAre(t *testing.T) {
	c := made[int, int](t, 1)
	stays(t, c, 0, 0)
	keys(t, c, 0)
	got(t, c, 0, 0)
	is(t, "Pin(0)", c.Pin(0), true)
	full(t, c, 1, 1)
	is(t, "Unpin(0)", c.Unpin(0), true)
	goes(t, c, 1, 1, 0)
	missed(t, c, 0)
}

// P6.3

func TestPinsAreCounted(t *testing.T) {
	for _, n := range []int{1, 2, 3, 1000} {
		c := filled(t, 1, "a")
		for range n {
			is(t, "Pin", c.Pin("a"), true)
		}
		for range n {
			full(t, c, "b", 2)
			is(t, "Unpin", c.Unpin("a"), true)
		}
		is(t, "Unpin without a pin", c.Unpin("a"), false)
		goes(t, c, "b", 2, "a")
	}
}

func TestPinsOfOneKeyAreNotAnothers(t *testing.T) {
	c := filled(t, 3, "a", "b", "c")
	c.Pin("a")
	c.Pin("a")
	is(t, "Unpin of b", c.Unpin("b"), false)
	is(t, "Unpin of c", c.Unpin("c"), false)
	c.Get("b")
	c.Get("a")
	goes(t, c, "d", 4, "c")
	goes(t, c, "e", 5, "b")
	goes(t, c, "f", 6, "d")
	is(t, "Unpin of a", c.Unpin("a"), true)
	is(t, "Unpin of a", c.Unpin("a"), true)
	is(t, "Unpin of a", c.Unpin("a"), false)
	keys(t, c, "f", "e", "a")
}

func TestPinUnpinAndDropOfWhatIsNotKept(t *testing.T) {
	c := filled(t, 2, "b", "c")
	for _, k := range []string{"", "a", "x"} {
		is(t, "Pin", c.Pin(k), false)
		is(t, "Unpin", c.Unpin(k), false)
		is(t, "Drop", c.Drop(k), false)
		missed(t, c, k)
		keys(t, c, "c", "b")
	}
}

func TestPinUnpinAndDropDoNotUse(t *testing.T) {
	c := filled(t, 4, "a", "b", "c", "d")
	for _, k := range []string{"a", "c", "d", "b"} {
		is(t, "Pin", c.Pin(k), true)
		keys(t, c, "d", "c", "b", "a")
	}
	for _, k := range []string{"b", "a", "c", "d"} {
		is(t, "Unpin", c.Unpin(k), true)
		is(t, "Unpin without a pin", c.Unpin(k), false)
		keys(t, c, "d", "c", "b", "a")
	}
	is(t, "Drop", c.Drop("b"), true)
	keys(t, c, "d", "c", "a")
	stays(t, c, "e", 5)
	goes(t, c, "f", 6, "a")
}

func TestDrop(t *testing.T) {
	for _, k := range []string{"a", "b", "c"} {
		c := filled(t, 3, "a", "b", "c")
		is(t, "Drop", c.Drop(k), true)
		is(t, "Drop anew", c.Drop(k), false)
		missed(t, c, k)
		is(t, "Pin of what is dropped", c.Pin(k), false)
		keys(t, c, slices.DeleteFunc([]string{"c", "b", "a"}, func(have string) bool { return have == k })...)
		stays(t, c, "d", 4)
		stays(t, c, "d", 5)
		if c.Len() != 3 {
			t.Errorf("%d are kept", c.Len())
		}
	}
}

func TestDropOfWhatIsPinned(t *testing.T) {
	c := filled(t, 2, "a", "b")
	c.Pin("a")
	c.Pin("a")
	c.Pin("b")
	full(t, c, "c", 3)
	is(t, "Drop", c.Drop("a"), true)
	is(t, "Unpin of what is dropped", c.Unpin("a"), false)
	stays(t, c, "a", 4)
	keys(t, c, "a", "b")
	goes(t, c, "c", 3, "a")
	is(t, "Unpin of b", c.Unpin("b"), true)
}

// P6.4

func TestAll(t *testing.T) {
	c := filled(t, 3, "a", "b", "c")
	c.Get("a")
	stays(t, c, "b", 7)
	want := []pair[string, int]{{"b", 7}, {"a", 1}, {"c", 3}}
	if l := given(c); !slices.Equal(l, want) {
		t.Errorf("%v", l)
	}
	if l := given(c); !slices.Equal(l, want) {
		t.Errorf("All uses: %v", l)
	}
}

func TestAllEndsWhereYieldIsFalse(t *testing.T) {
	c := filled(t, 5, "a", "b", "c", "d", "e")
	want := []string{"e", "d", "c", "b", "a"}
	for most := 1; most <= len(want); most++ {
		var l []string
		c.All()(func(k string, v int) bool {
			l = append(l, k)
			return len(l) < most
		})
		if !slices.Equal(l, want[:most]) {
			t.Errorf("%v where %d are wanted", l, most)
		}
	}
}

func TestAllIsRangedOver(t *testing.T) {
	c := filled(t, 4, "a", "b", "c", "d")
	var l []pair[string, int]
	for k, v := range c.All() {
		if k == "c" {
			continue
		}
		l = append(l, pair[string, int]{k, v})
		if k == "b" {
			break
		}
	}
	if !slices.Equal(l, []pair[string, int]{{"d", 4}, {"b", 2}}) {
		t.Errorf("%v", l)
	}
}

func TestAllGivesWhatIsKeptWhenItIsBegun(t *testing.T) {
	want := []pair[string, int]{{"c", 3}, {"b", 2}, {"a", 1}}
	for name, do := range map[string]func(c *cache.Cache[string, int]){
		"Get":            func(c *cache.Cache[string, int]) { c.Get("a") },
		"Put of another": func(c *cache.Cache[string, int]) { c.Put("d", 4) },
		"Put of the same": func(c *cache.Cache[string, int]) {
			c.Put("a", 7)
			c.Put("b", 8)
			c.Put("c", 9)
		},
		"Drop": func(c *cache.Cache[string, int]) {
			c.Drop("a")
			c.Drop("b")
			c.Drop("c")
		},
		"Drop, and Put": func(c *cache.Cache[string, int]) {
			c.Drop("c")
			c.Put("e", 5)
			c.Put("f", 6)
		},
	} {
		for _, most := range []int{3, 4, 9} {
			c := filled(t, most, "a", "b", "c")
			var l []pair[string, int]
			for k, v := range c.All() {
				l = append(l, pair[string, int]{k, v})
				do(c)
			}
			if !slices.Equal(l, want) {
				t.Errorf("with %s meanwhile %v", name, l)
			}
		}
	}
}

func TestAllLetsItsKeysBeDropped(t *testing.T) {
	c := filled(t, 5, "a", "b", "c", "d", "e")
	for k := range c.All() {
		is(t, "Drop", c.Drop(k), true)
	}
	keys(t, c)
}

func TestAllBeginsAnewWithEachCall(t *testing.T) {
	c := filled(t, 3, "a", "b")
	all := c.All()
	for range all {
		break
	}
	stays(t, c, "c", 3)
	var outer, inner []string
	for k := range all {
		outer = append(outer, k)
		for k := range all {
			inner = append(inner, k)
		}
	}
	want := []string{"c", "b", "a"}
	if !slices.Equal(outer, want) || !slices.Equal(inner, slices.Repeat(want, 3)) {
		t.Errorf("%v, %v", outer, inner)
	}
}

func TestAllGivenNothing(t *testing.T) {
	made[int, int](t, 1).All()(nil)
	filled(t, 2, "a", "b").All()(nil)
	(*cache.Cache[int, int])(nil).All()(nil)
}

// Keys and values of all types.

func TestKeysOfOtherTypes(t *testing.T) {
	type place struct {
		page int
		name string
	}
	c := made[place, []int](t, 2)
	c.Put(place{1, "a"}, []int{1})
	c.Put(place{1, "b"}, []int{2})
	if v, ok := c.Get(place{1, "a"}); !ok || !slices.Equal(v, []int{1}) {
		t.Errorf("%v, %t", v, ok)
	}
	goes(t, c, place{2, "a"}, nil, place{1, "b"})
	d := made[[2]byte, string](t, 1)
	stays(t, d, [2]byte{1, 2}, "ab")
	got(t, d, [2]byte{1, 2}, "ab")
	missed(t, d, [2]byte{2, 1})
	p, q := new(int), new(int)
	f := made[*int, int](t, 2)
	stays(t, f, p, 1)
	stays(t, f, q, 2)
	goes(t, f, nil, 3, p)
	got(t, f, q, 2)
}

func TestInterfacesAsKeys(t *testing.T) {
	c := made[any, string](t, 4)
	stays[any](t, c, 1, "int")
	stays[any](t, c, "1", "string")
	stays[any](t, c, int8(1), "int8")
	stays[any](t, c, nil, "nil")
	got[any](t, c, 1, "int")
	got[any](t, c, nil, "nil")
	got[any](t, c, "1", "string")
	missed[any](t, c, int16(1))
	goes[any](t, c, 1.0, "float", int8(1))
}

func TestKeysThatAreNotThemselves(t *testing.T) {
	c := made[float64, int](t, 3)
	stays(t, c, 1, 1)
	stays(t, c, math.NaN(), 2)
	missed(t, c, math.NaN())
	is(t, "Pin of NaN", c.Pin(math.NaN()), false)
	is(t, "Drop of NaN", c.Drop(math.NaN()), false)
	stays(t, c, math.NaN(), 3)
	goes(t, c, math.NaN(), 4, 1)
	for range 5 {
		if out, gone, e := c.Put(2, 5); e != api.OK || gone && !math.IsNaN(out) || c.Len() != 3 {
			t.Errorf("%v, %t, %d; %d are kept", out, gone, e, c.Len())
		}
	}
	got(t, c, 2, 5)
}

func TestKeysThatCannotBeHeldAgainstOthers(t *testing.T) {
	wrong := []any{[]int{1}, map[int]int{}, func() {}, [1]any{[]int{1}}, struct{ l []int }{}}
	for _, k := range wrong {
		c := made[any, int](t, 2)
		for range 2 { // the second one is held against the first one
			if out, gone, e := c.Put(k, 7); out != nil || gone || e != api.OK {
				t.Errorf("Put(%T) = %v, %t, %d", k, out, gone, e)
			}
			if v, ok := c.Get(k); v != 0 || ok {
				t.Errorf("Get(%T) = %d, %t", k, v, ok)
			}
			is(t, "Pin", c.Pin(k), false)
			is(t, "Unpin", c.Unpin(k), false)
			is(t, "Drop", c.Drop(k), false)
		}
		if len(given(c)) != 2 {
			t.Errorf("%T: %d are kept", k, len(given(c)))
		}
		c.Put("a", 1)
		c.Put("b", 2)
		keys[any](t, c, "b", "a")
		c.Put(k, 7)
		got[any](t, c, "b", 2)
		if c.Put("c", 3); c.Len() != 2 {
			t.Errorf("%T: %d are kept", k, c.Len())
		}
		keys[any](t, c, "c", "b")
	}
}

func TestCachesHaveNothingInCommon(t *testing.T) {
	a, b := filled(t, 2, "a", "b"), filled(t, 2, "b", "c")
	a.Pin("b")
	a.Drop("a")
	keys(t, a, "b")
	keys(t, b, "c", "b")
	is(t, "Unpin", b.Unpin("b"), false)
	got(t, a, "b", 2)
	got(t, b, "b", 1)
}

// P6.5, and the chapter's examples

func TestExamples(t *testing.T) {
	c := made[int, string](t, 2)
	stays(t, c, 1, "a")
	stays(t, c, 2, "b")
	got(t, c, 1, "a")
	goes(t, c, 3, "c", 2)
	is(t, "Pin(1)", c.Pin(1), true)
	is(t, "Pin(3)", c.Pin(3), true)
	full(t, c, 4, "d")
}

// kept is what a stand-in knows of a key: its value, its pins, and when it was used.
type kept struct {
	val, pins, used int
}

// standIn does what the chapter says by the times at which keys were used.
type standIn struct {
	most, now int
	keys      map[int]kept
}

func (s *standIn) get(k int) (int, bool) {
	e, ok := s.keys[k]
	if ok {
		s.now++
		e.used = s.now
		s.keys[k] = e
	}
	return e.val, ok
}

func (s *standIn) put(k, v int) (int, bool, api.Errno) {
	e, ok := s.keys[k]
	out, gone := 0, false
	if !ok && len(s.keys) == s.most {
		for i, e := range s.keys {
			if e.pins == 0 && (!gone || e.used < s.keys[out].used) {
				out, gone = i, true
			}
		}
		if !gone {
			return 0, false, api.ErrFull
		}
		delete(s.keys, out)
	}
	s.now++
	s.keys[k] = kept{val: v, pins: e.pins, used: s.now}
	return out, gone, api.OK
}

func (s *standIn) pin(k, by int) bool {
	e, ok := s.keys[k]
	if !ok || e.pins+by < 0 {
		return false
	}
	e.pins += by
	s.keys[k] = e
	return true
}

func (s *standIn) drop(k int) bool {
	_, ok := s.keys[k]
	delete(s.keys, k)
	return ok
}

func (s *standIn) all() []pair[int, int] {
	var l []pair[int, int]
	for k, e := range s.keys {
		l = append(l, pair[int, int]{k, e.val})
	}
	slices.SortFunc(l, func(a, b pair[int, int]) int { return s.keys[b.k].used - s.keys[a.k].used })
	return l
}

// both make the same call, told by three numbers, of a cache and of its stand-in, and tell what they answer.
func both(c *cache.Cache[int, int], s *standIn, what, k, v int) (string, string) {
	tell := fmt.Sprint
	switch {
	case what < 4:
		out, gone, e := c.Put(k, v)
		wantOut, wantGone, wantE := s.put(k, v)
		return tell("Put ", k, v, ": ", out, gone, e), tell("Put ", k, v, ": ", wantOut, wantGone, wantE)
	case what < 7:
		have, ok := c.Get(k)
		want, wantOK := s.get(k)
		return tell("Get ", k, ": ", have, ok), tell("Get ", k, ": ", want, wantOK)
	case what < 9:
		return tell("Pin ", k, ": ", c.Pin(k)), tell("Pin ", k, ": ", s.pin(k, 1))
	case what < 11:
		return tell("Unpin ", k, ": ", c.Unpin(k)), tell("Unpin ", k, ": ", s.pin(k, -1))
	default:
		return tell("Drop ", k, ": ", c.Drop(k)), tell("Drop ", k, ": ", s.drop(k))
	}
}

func TestCallsByChance(t *testing.T) {
	r := rand.New(rand.NewSource(6))
	for _, most := range []int{1, 2, 3, 4, 5, 8, 20, 100} {
		for range 20 {
			c, s := made[int, int](t, most), &standIn{most: most, keys: map[int]kept{}}
			for i := range 400 {
				have, want := both(c, s, r.Intn(12), r.Intn(2*most+1), 1+i)
				if have != want {
					t.Fatalf("of %d, call %d: %s, not %s", most, i, have, want)
				}
				if l := given(c); !slices.Equal(l, s.all()) || c.Len() != len(l) || len(l) > most {
					t.Fatalf("of %d, behind call %d, %s: %v are kept, %d of them, not %v", most, i, have, l, c.Len(), s.all())
				}
			}
		}
	}
}

func TestWhatHasAPinStays(t *testing.T) {
	r := rand.New(rand.NewSource(65))
	c := made[int, int](t, 10)
	for _, k := range []int{3, 5, 8} {
		c.Put(k, -k)
		c.Pin(k)
	}
	for range 2000 {
		if k := r.Intn(50); k != 3 && k != 5 && k != 8 {
			c.Put(k, k)
		}
		if c.Len() > 10 {
			t.Fatalf("%d are kept", c.Len())
		}
	}
	for _, k := range []int{3, 5, 8} {
		got(t, c, k, -k)
	}
}

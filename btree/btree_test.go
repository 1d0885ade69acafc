package btree_test

import (
	"fmt"
	"maps"
	"math"
	"slices"
	"strings"
	"testing"
	"unsafe"

	"annalist/api"
	"annalist/block"
	"annalist/btree"
	"annalist/pager"
	"annalist/store"
)

// records are what a tree is to have.
type records = map[string]string

// is tells whether a call's error is that.
func is(t *testing.T, call string, got, want api.Errno) {
	t.Helper()
	if got != want {
		t.Errorf("%s: error %d, not %d", call, got, want)
	}
}

// disk is a disk with a pager that is made ready, and has so many pages to give out. Its journal has room for all of them, if they are at most 900.
func disk(t *testing.T, pages int) *block.Disk {
	t.Helper()
	journal := min(pages+20, api.MaxBlocks-4-pages)
	d, e := block.New(2 + journal + 2 + pages)
	if e != api.OK {
		t.Fatalf("a disk of %d pages: error %d", pages, e)
	}
	is(t, "store.Format", store.Format(d, journal), api.OK)
	p := opened(t, d)
	is(t, "Format", p.Format(), api.OK)
	commit(t, p)
	return d
}

// opened is a disk's pager.
func opened(t *testing.T, d *block.Disk) *pager.Pager {
	t.Helper()
	s, e := store.Open(d)
	if e != api.OK {
		t.Fatalf("store.Open: error %d", e)
	}
	p, e := pager.New(s)
	if e != api.OK {
		t.Fatalf("pager.New: error %d", e)
	}
	return p
}

// ready is a pager that has so many pages to give out.
func ready(t *testing.T, pages int) *pager.Pager {
	t.Helper()
	return opened(t, disk(t, pages))
}

// tree is the tree of a root.
func tree(t *testing.T, p *pager.Pager, i int) *btree.Tree {
	t.Helper()
	x, e := btree.Open(p, i)
	if e != api.OK || x == nil {
		t.Fatalf("Open(%d): %v, error %d", i, x, e)
	}
	return x
}

// commit ends a transaction.
func commit(t *testing.T, p *pager.Pager) {
	t.Helper()
	is(t, "Commit", p.Commit(), api.OK)
}

// put puts a record.
func put(t *testing.T, x *btree.Tree, key, val string) {
	t.Helper()
	if e := x.Put(key, val); e != api.OK {
		t.Fatalf("Put(%q, %q): error %d", key, val, e)
	}
}

// del deletes a record.
func del(t *testing.T, x *btree.Tree, key string) {
	t.Helper()
	if e := x.Delete(key); e != api.OK {
		t.Fatalf("Delete(%q): error %d", key, e)
	}
}

// noPut has a record not put, for that error.
func noPut(t *testing.T, x *btree.Tree, key, val string, want api.Errno) {
	t.Helper()
	is(t, fmt.Sprintf("Put of %d bytes under %d bytes", len(val), len(key)), x.Put(key, val), want)
}

// has tells whether a record is under a key.
func has(t *testing.T, x *btree.Tree, key, want string) {
	t.Helper()
	if got, e := x.Get(key); got != want || e != api.OK {
		t.Errorf("Get(%q) = %q, error %d, not %q", key, got, e, want)
	}
}

// hasNot tells whether nothing is under a key, for that error.
func hasNot(t *testing.T, x *btree.Tree, key string, want api.Errno) {
	t.Helper()
	if got, e := x.Get(key); got != "" || e != want {
		t.Errorf("Get(%.40q) = %q, error %d, not the error %d alone", key, got, e, want)
	}
}

// given are the records that a tree gives from a key on.
func given(x *btree.Tree, from string) []api.Pair {
	var l []api.Pair
	for k, v := range x.From(from) {
		l = append(l, api.Pair{Key: k, Value: v})
	}
	return l
}

// rising are records by rising keys, from a key on.
func rising(want records, from string) []api.Pair {
	var l []api.Pair
	for _, k := range slices.Sorted(maps.Keys(want)) {
		if k >= from {
			l = append(l, api.Pair{Key: k, Value: want[k]})
		}
	}
	return l
}

// matches tells whether a tree has these records alone, and is in order.
func matches(x *btree.Tree, want records) error {
	var all []api.Pair
	for k, v := range x.All() {
		all = append(all, api.Pair{Key: k, Value: v})
	}
	if l := rising(want, ""); !slices.Equal(all, l) {
		return fmt.Errorf("All gives %d records: %.300q, not %d: %.300q", len(all), all, len(l), l)
	}
	if n := x.Count(); n != len(want) {
		return fmt.Errorf("Count = %d, not %d", n, len(want))
	}
	for k, v := range want {
		if got, e := x.Get(k); got != v || e != api.OK {
			return fmt.Errorf("Get(%q) = %q, error %d, not %q", k, got, e, v)
		}
	}
	if !x.Sound() {
		return fmt.Errorf("it isn't Sound")
	}
	if n := x.Depth(); n < 0 || (n == 0) != (len(want) == 0) {
		return fmt.Errorf("Depth of %d records = %d", len(want), n)
	}
	return nil
}

// owns tells whether trees take all pages that a pager has given out, each of these once.
func owns(p *pager.Pager, pages int, trees ...*btree.Tree) error {
	seen := map[int]bool{}
	for _, x := range trees {
		l := x.Pages()
		if (len(l) == 0) != (x.Count() == 0) {
			return fmt.Errorf("%d records take %d pages", x.Count(), len(l))
		}
		for _, at := range l {
			if _, e := p.Get(at); e != api.OK || seen[at] {
				return fmt.Errorf("page %d of %v: error %d, and taken ahead: %t", at, l, e, seen[at])
			}
			seen[at] = true
		}
	}
	if room := p.Room(); room+len(seen) != pages {
		return fmt.Errorf("Room = %d, but %d of %d pages are taken", room, len(seen), pages)
	}
	return nil
}

// fits tells whether a tree matches, and is the only one of its pager.
func fits(t *testing.T, p *pager.Pager, pages int, x *btree.Tree, want records) {
	t.Helper()
	if e := matches(x, want); e != nil {
		t.Fatal(e)
	}
	if e := owns(p, pages, x); e != nil {
		t.Fatal(e)
	}
}

// long is a record of the longest kind; key and record begin with a number.
func long(i int) (string, string) {
	n := fmt.Sprintf("%04d", i)
	return n + strings.Repeat("k", api.MaxKey-4), n + strings.Repeat("v", api.MaxRecord-4)
}

// dark takes the power off a disk, and has a pager find that out.
func dark(t *testing.T, d *block.Disk, p *pager.Pager) {
	t.Helper()
	d.Limit(0)
	is(t, "Flush without power", d.Flush(), api.ErrCrash)
	if _, e := p.Alloc(); e == api.OK {
		is(t, "Commit without power", p.Commit(), api.ErrCrash)
	}
}

// ends tells whether that error ends all calls of a tree.
func ends(t *testing.T, x *btree.Tree, want api.Errno) {
	t.Helper()
	for range 2 {
		for _, key := range []string{"", "a", "b", "\xff", strings.Repeat("k", 33)} {
			hasNot(t, x, key, want)
			is(t, "Delete", x.Delete(key), want)
			if l := given(x, key); l != nil {
				t.Errorf("From gives %q", l)
			}
		}
		noPut(t, x, "a", "b", want)
		is(t, "Drop", x.Drop(), want)
		for range x.All() {
			t.Error("All gives something")
		}
		if x.Count() != 0 || x.Pages() != nil || x.Sound() || x.Depth() != 0 {
			t.Errorf("Count = %d, Pages = %v, Sound = %t, Depth = %d", x.Count(), x.Pages(), x.Sound(), x.Depth())
		}
	}
}

// What is nil, and what no call made

func TestNothing(t *testing.T) {
	var no *btree.Tree
	for _, x := range []*btree.Tree{no, {}, new(btree.Tree)} {
		ends(t, x, api.ErrNil)
		noPut(t, x, "", "b", api.ErrNil)
		noPut(t, x, "a", strings.Repeat("v", 81), api.ErrNil)
		x.All()(nil)
		x.From("a")(nil)
	}
}

func TestOfNoPager(t *testing.T) {
	var no *pager.Pager
	for _, p := range []*pager.Pager{no, {}} {
		for _, i := range []int{0, 15, -1, 16} {
			if x, e := btree.Open(p, i); x != nil || e != api.ErrNil {
				t.Errorf("Open(%d) of nothing: %v, error %d", i, x, e)
			}
			if x, e := btree.Fill(p, i, []api.Pair{{Key: "", Value: "b"}}); x != nil || e != api.ErrNil {
				t.Errorf("Fill(%d) of nothing: %v, error %d", i, x, e)
			}
		}
	}
}

// P8.1

func TestOpen(t *testing.T) {
	p := ready(t, 40)
	for _, i := range []int{-1, 16, 17, math.MinInt, math.MaxInt, 1 << 32} {
		if x, e := btree.Open(p, i); x != nil || e != api.ErrArg {
			t.Errorf("Open(%d): %v, error %d", i, x, e)
		}
	}
	want := map[int]records{}
	for i := range pager.Roots {
		x := tree(t, p, i)
		fits(t, p, 40-i, x, nil)
		hasNot(t, x, "a", api.ErrNone)
		put(t, x, "a", fmt.Sprint("of root ", i))
		put(t, x, fmt.Sprint(i), "")
		want[i] = records{"a": fmt.Sprint("of root ", i), fmt.Sprint(i): ""}
		if at, e := p.Root(i); at == 0 || e != api.OK {
			t.Errorf("Root(%d) = %d, error %d", i, at, e)
		}
		if e := matches(x, want[i]); e != nil {
			t.Fatal(e)
		}
		del(t, x, fmt.Sprint(i))
		del(t, x, "a")
		if at, e := p.Root(i); at != 0 || e != api.OK {
			t.Errorf("Root(%d) of an empty tree = %d, error %d", i, at, e)
		}
		put(t, x, "a", fmt.Sprint("of root ", i))
		put(t, x, fmt.Sprint(i), "")
	}
	var l []*btree.Tree
	for i := range pager.Roots {
		l = append(l, tree(t, p, i))
		if e := matches(l[i], want[i]); e != nil {
			t.Errorf("root %d: %v", i, e)
		}
	}
	if e := owns(p, 40, l...); e != nil {
		t.Error(e)
	}
}

func TestOpenWritesNothing(t *testing.T) {
	d := disk(t, 5)
	s, _ := store.Open(d)
	p, _ := pager.New(s)
	x := tree(t, p, 3)
	hasNot(t, x, "a", api.ErrNone)
	is(t, "Delete", x.Delete("a"), api.ErrNone)
	is(t, "Drop", x.Drop(), api.OK)
	noPut(t, x, "", "a", api.ErrKey)
	fits(t, p, 5, x, nil)
	if l := s.Dirty(); len(l) > 0 {
		t.Errorf("the transaction has the pages %v", l)
	}
}

func TestGet(t *testing.T) {
	p := ready(t, 300)
	x := tree(t, p, 2)
	want := records{}
	for i := range 256 {
		want[string([]byte{byte(i)})] = fmt.Sprint(i)
		want[string([]byte{'a', byte(i)})] = strings.Repeat("\x00", i%81)
		want[string([]byte{byte(i), 0xff, 0})] = string([]byte{byte(i), 0, 0xff})
	}
	for k, v := range want {
		put(t, x, k, v)
	}
	fits(t, p, 300, x, want)
	for i := range 256 {
		hasNot(t, x, string([]byte{byte(i), 0xff, 1}), api.ErrNone)
		hasNot(t, x, string([]byte{byte(i), 0xff, 0, 0}), api.ErrNone)
		hasNot(t, x, string([]byte{'a', byte(i), 2}), api.ErrNone)
	}
	hasNot(t, x, "", api.ErrNone)
	hasNot(t, x, strings.Repeat("a", 33), api.ErrNone)
	hasNot(t, x, strings.Repeat("a", 1<<20), api.ErrNone)
}

func TestCount(t *testing.T) {
	p := ready(t, 100)
	x := tree(t, p, 0)
	for i := range 200 {
		if n := x.Count(); n != i {
			t.Fatalf("Count = %d, not %d", n, i)
		}
		put(t, x, fmt.Sprint(i*37%200), "v")
		put(t, x, fmt.Sprint(i*37%200), "w")
	}
	for i := 200; i > 0; i-- {
		if n := x.Count(); n != i {
			t.Fatalf("Count = %d, not %d", n, i)
		}
		del(t, x, fmt.Sprint(i*73%200))
	}
	fits(t, p, 100, x, nil)
}

func TestTwoOfOneRoot(t *testing.T) {
	p := ready(t, 60)
	x, y := tree(t, p, 7), tree(t, p, 7)
	want := records{}
	for i := range 40 {
		k, v := long(i * 7 % 40)
		want[k] = v
		if i%2 == 0 {
			x, y = y, x
		}
		put(t, x, k, v)
		has(t, y, k, v)
		fits(t, p, 60, y, want)
	}
	is(t, "Drop", x.Drop(), api.OK)
	fits(t, p, 60, y, nil)
}

func TestWithoutPower(t *testing.T) {
	for _, n := range []int{0, 1, 40} {
		d := disk(t, 60)
		p := opened(t, d)
		x := tree(t, p, 1)
		for i := range n {
			put(t, x, fmt.Sprint("key ", i), strings.Repeat("v", 40))
		}
		commit(t, p)
		dark(t, d, p)
		ends(t, x, api.ErrCrash)
		// What is wrong with the record is told first.
		noPut(t, x, "", "a", api.ErrKey)
		noPut(t, x, "a", strings.Repeat("v", 81), api.ErrBig)
		if y, e := btree.Open(p, 1); y != nil || e != api.ErrCrash {
			t.Errorf("Open without power: %v, error %d", y, e)
		}
		if y, e := btree.Fill(p, 1, nil); y != nil || e != api.ErrCrash {
			t.Errorf("Fill without power: %v, error %d", y, e)
		}
		d.Crash(0, 0, 0)
		ends(t, x, api.ErrCrash)
		if c := tree(t, opened(t, d), 1).Count(); c != n {
			t.Errorf("%d records are there, not %d", c, n)
		}
	}
}

// The power goes while a call is under way: it ends with that error.
func TestPowerGoesMeanwhile(t *testing.T) {
	for turn, call := range []func(x *btree.Tree) api.Errno{
		func(x *btree.Tree) api.Errno { _, e := x.Get("key 399"); return e },
		func(x *btree.Tree) api.Errno { return x.Put("key 399", "w") },
		func(x *btree.Tree) api.Errno { return x.Put("key 3999", "w") },
		func(x *btree.Tree) api.Errno { return x.Delete("key 399") },
		func(x *btree.Tree) api.Errno { return x.Drop() },
	} {
		d := disk(t, 100)
		p := opened(t, d)
		x := tree(t, p, 1)
		for i := range 400 {
			put(t, x, fmt.Sprintf("key %03d", i), "v")
		}
		commit(t, p)
		p = opened(t, d)
		x = tree(t, p, 1)
		d.Limit(0)
		is(t, "Flush without power", d.Flush(), api.ErrCrash)
		is(t, fmt.Sprint("call ", turn), call(x), api.ErrCrash)
		ends(t, x, api.ErrCrash)
	}
}

// P8.2

func TestPutOfWhatMayNotBe(t *testing.T) {
	p := ready(t, 9)
	x := tree(t, p, 4)
	for _, want := range []records{nil, {"a": "b"}} {
		if want != nil {
			put(t, x, "a", "b")
		}
		for _, val := range []string{"", "v", strings.Repeat("v", 81), strings.Repeat("v", 1<<16)} {
			noPut(t, x, "", val, api.ErrKey)
			noPut(t, x, strings.Repeat("a", 33), val, api.ErrKey)
			noPut(t, x, strings.Repeat("a", 256+1), val, api.ErrKey)
		}
		for _, key := range []string{"a", "\x00", strings.Repeat("a", 32)} {
			noPut(t, x, key, strings.Repeat("v", 81), api.ErrBig)
			noPut(t, x, key, strings.Repeat("v", 256), api.ErrBig)
		}
		fits(t, p, 9, x, want)
	}
}

func TestPutOfAllLengths(t *testing.T) {
	p := ready(t, 1000)
	x := tree(t, p, 4)
	want := records{}
	for n := 1; n <= api.MaxKey; n++ {
		for m := 0; m <= api.MaxRecord; m += 1 + n%7 {
			k := strings.Repeat(string([]byte{byte(m)}), n)
			want[k] = strings.Repeat("v", m)
			put(t, x, k, want[k])
		}
	}
	put(t, x, "\x00", "")
	put(t, x, strings.Repeat("\xff", 32), strings.Repeat("\x00", 80))
	want["\x00"], want[strings.Repeat("\xff", 32)] = "", strings.Repeat("\x00", 80)
	fits(t, p, 1000, x, want)
}

func TestPutInThePlace(t *testing.T) {
	p := ready(t, 200)
	x := tree(t, p, 4)
	want := records{}
	for _, n := range []int{0, 1, 80, 2, 79, 40, 0, 80} {
		for i := range 60 {
			k := fmt.Sprintf("k%02d", i)
			want[k] = strings.Repeat(string([]byte{byte(i)}), n)
			put(t, x, k, want[k])
		}
		fits(t, p, 200, x, want)
	}
}

func TestPutKeepsNothingThatIsHandedIn(t *testing.T) {
	p := ready(t, 20)
	x := tree(t, p, 0)
	key, val := []byte("key"), []byte("value")
	put(t, x, unsafe.String(&key[0], len(key)), unsafe.String(&val[0], len(val)))
	from := x.From(unsafe.String(&key[0], len(key)))
	copy(key, "zzz")
	copy(val, "zzzzz")
	fits(t, p, 20, x, records{"key": "value"})
	for k, v := range from {
		if k != "key" || v != "value" {
			t.Error(k, v)
		}
		return
	}
	t.Error("From gives nothing")
}

func TestAnswersAreNew(t *testing.T) {
	p := ready(t, 20)
	x := tree(t, p, 0)
	for i := range 30 {
		put(t, x, fmt.Sprintf("key%02d", i), fmt.Sprintf("value%02d", i))
	}
	at := map[uintptr]bool{}
	fresh := func(s string) {
		t.Helper()
		for i := range len(s) {
			a := uintptr(unsafe.Pointer(unsafe.StringData(s))) + uintptr(i)
			if at[a] {
				t.Fatalf("%q shares memory with another answer", s)
			}
			at[a] = true
		}
	}
	var kept []string
	for k, v := range x.All() {
		kept = append(kept, k, v)
		v, _ = x.Get(k)
		kept = append(kept, v)
	}
	for _, s := range kept {
		fresh(s)
	}
	l := x.Pages()
	want := slices.Clone(l)
	clear(l)
	if got := x.Pages(); !slices.Equal(got, want) {
		t.Errorf("Pages = %v, not %v", got, want)
	}
}

// Pages are taken till there are none: ErrSpace is told only when few are left, and then all stays.
func TestSpace(t *testing.T) {
	for _, pages := range []int{1, 2, 3, 4, 5, 8, 12, 15, 16, 17, 18, 19, 25, 39} {
		for _, kind := range []func(i int) (string, string){
			long,
			func(i int) (string, string) { return fmt.Sprint(i * 7919 % 10007), strings.Repeat("v", i%81) },
			func(i int) (string, string) { return fmt.Sprintf("%03d", 999-i), "" },
			func(i int) (string, string) { k, v := long(i * 37 % 1009); return k, v },
		} {
			p := ready(t, pages)
			x := tree(t, p, 9)
			want := records{}
			fails := 0
			for i := 0; fails < 20; i++ {
				k, v := kind(i)
				room := p.Room()
				switch e := x.Put(k, v); {
				case e == api.OK:
					want[k] = v
					if took := room - p.Room(); took > 8 {
						t.Fatalf("a Put takes %d pages", took)
					}
				case e == api.ErrSpace && room < 16:
					fails++
					fits(t, p, pages, x, want)
				default:
					t.Fatalf("Put(%q) with a Room of %d: error %d", k, room, e)
				}
				if i > 50*pages+50 {
					t.Fatalf("%d records on %d pages", i, pages)
				}
			}
			// What is there can be put again, and deleted.
			for k, v := range want {
				put(t, x, k, v)
				put(t, x, k, "")
				del(t, x, k)
			}
			fits(t, p, pages, x, nil)
		}
	}
}

func TestSpaceIsUsed(t *testing.T) {
	p := ready(t, 1)
	x := tree(t, p, 0)
	want := records{}
	for i := range 2 {
		k, v := long(i)
		put(t, x, k, v)
		want[k] = v
	}
	k, v := long(2)
	noPut(t, x, k, v, api.ErrSpace)
	fits(t, p, 1, x, want)
	other := tree(t, p, 1)
	noPut(t, other, "a", "", api.ErrSpace)
	if e := matches(other, nil); e != nil {
		t.Error(e)
	}
	fits(t, p, 1, x, want)
	k, _ = long(1)
	put(t, x, k, "short")
	want[k] = "short"
	put(t, x, "a", "b")
	want["a"] = "b"
	fits(t, p, 1, x, want)
}

// P8.3

func TestDelete(t *testing.T) {
	p := ready(t, 100)
	for _, step := range []int{1, 79, 37, 3} {
		x := tree(t, p, 4)
		want := records{}
		for i := range 80 {
			k := fmt.Sprintf("k%02d", i)
			want[k] = strings.Repeat("v", 80-i)
			put(t, x, k, want[k])
		}
		for i := range 80 {
			k := fmt.Sprintf("k%02d", i*step%80)
			room := p.Room()
			del(t, x, k)
			if p.Room() < room {
				t.Errorf("a Delete takes %d pages", room-p.Room())
			}
			delete(want, k)
			hasNot(t, x, k, api.ErrNone)
			is(t, "Delete again", x.Delete(k), api.ErrNone)
			is(t, "Delete of another", x.Delete(k+"k"), api.ErrNone)
			is(t, "Delete of no key", x.Delete(""), api.ErrNone)
			is(t, "Delete of a long key", x.Delete(strings.Repeat("k", 300)), api.ErrNone)
			fits(t, p, 100, x, want)
		}
	}
}

func TestDeleteTakesNoPage(t *testing.T) {
	// Short keys give way to long ones in the pages that lead to others, when records go.
	for seed := range 8 {
		p := ready(t, 400)
		x := tree(t, p, 4)
		want := records{}
		for i := range 600 {
			k := fmt.Sprintf("%03d", i)
			if i%(2+seed) == 0 {
				k += strings.Repeat("k", 29)
			}
			want[k] = strings.Repeat("v", (i*7919+seed)%81)
			put(t, x, k, want[k])
		}
		full, _ := btree.Open(p, 5)
		for i := 0; full.Put(fmt.Sprint(i), strings.Repeat("f", 80)) == api.OK; i++ {
		}
		for k := range want {
			room := p.Room()
			del(t, x, k)
			if p.Room() < room {
				t.Fatalf("a Delete takes %d pages", room-p.Room())
			}
			delete(want, k)
			if len(want)%50 == 0 {
				if e := matches(x, want); e != nil {
					t.Fatal(e)
				}
			}
		}
		if e := owns(p, 400, x, full); e != nil {
			t.Error(e)
		}
	}
}

// P8.4

func TestExample(t *testing.T) {
	p := ready(t, 5)
	x := tree(t, p, 0)
	put(t, x, "b", "1")
	put(t, x, "a", "2")
	put(t, x, "b", "3")
	fits(t, p, 5, x, records{"a": "2", "b": "3"})
	if l := given(x, "aa"); !slices.Equal(l, []api.Pair{{Key: "b", Value: "3"}}) {
		t.Errorf("From(aa) gives %q", l)
	}
}

// many is a tree of several levels, and what it has.
func many(t *testing.T) (*btree.Tree, records) {
	t.Helper()
	p := ready(t, 300)
	x := tree(t, p, 11)
	want := records{}
	for i := range 500 {
		k := fmt.Sprintf("%d", i*7919%500*2)
		want[k] = strings.Repeat("v", i%81)
		put(t, x, k, want[k])
	}
	if x.Depth() < 3 {
		t.Errorf("Depth = %d", x.Depth())
	}
	fits(t, p, 300, x, want)
	return x, want
}

func TestFrom(t *testing.T) {
	x, want := many(t)
	from := []string{"", "\x00", "\xff", strings.Repeat("0", 33), strings.Repeat("9", 400), "0", "99", "998", "999"}
	for i := range 1000 {
		from = append(from, fmt.Sprint(i), fmt.Sprint(i)+"\x00", fmt.Sprint(i)+strings.Repeat("9", 31))
	}
	for _, k := range from {
		if got, l := given(x, k), rising(want, k); !slices.Equal(got, l) {
			t.Fatalf("From(%q) gives %d records, not %d: %.200q, not %.200q", k, len(got), len(l), got, l)
		}
	}
}

func TestTillYieldIsFalse(t *testing.T) {
	x, want := many(t)
	for _, from := range []string{"", "5", "9"} {
		l := rising(want, from)
		for n := 1; n <= len(l); n++ {
			var got []api.Pair
			x.From(from)(func(k, v string) bool {
				got = append(got, api.Pair{Key: k, Value: v})
				return len(got) < n
			})
			if !slices.Equal(got, l[:n]) {
				t.Fatalf("From(%q), %d times: %.200q", from, n, got)
			}
		}
	}
	for k := range x.All() {
		if k != "0" {
			t.Errorf("All gives %q first", k)
		}
		break
	}
	x.All()(nil)
	x.From("5")(nil)
}

func TestAllAgain(t *testing.T) {
	p := ready(t, 20)
	x := tree(t, p, 0)
	all, from := x.All(), x.From("b")
	count := func(f func(func(string, string) bool)) int {
		n := 0
		for range f {
			n++
		}
		return n
	}
	for i, k := range []string{"a", "b", "c"} {
		put(t, x, k, "")
		if n := count(all); n != i+1 {
			t.Errorf("All gives %d records, not %d", n, i+1)
		}
		if n := count(from); n != i {
			t.Errorf("From gives %d records, not %d", n, i)
		}
	}
	// One in the other.
	n := 0
	for range all {
		for range all {
			n++
		}
	}
	if n != 9 {
		t.Errorf("%d pairs of records", n)
	}
}

// P8.6

func TestPages(t *testing.T) {
	p := ready(t, 300)
	x := tree(t, p, 3)
	for i := range 250 {
		k, v := long(i * 7 % 250)
		put(t, x, k, v)
		l := x.Pages()
		if at, e := p.Root(3); l[0] != at || e != api.OK {
			t.Fatalf("the first of %v isn't the root %d", l, at)
		}
		if e := owns(p, 300, x); e != nil {
			t.Fatal(e)
		}
	}
}

func TestDepth(t *testing.T) {
	p := ready(t, 1000)
	x := tree(t, p, 3)
	deep := 0
	for i := range 700 {
		k, v := long(i * 11 % 700)
		put(t, x, k, v)
		n := x.Depth()
		if n < deep || n > deep+1 || n > len(x.Pages()) || n == 1 != (len(x.Pages()) == 1) {
			t.Fatalf("Depth = %d of %d pages, and was %d", n, len(x.Pages()), deep)
		}
		deep = n
	}
	if deep < 4 || deep > 8 {
		t.Errorf("Depth = %d", deep)
	}
	for i := range 700 {
		k, _ := long(i * 13 % 700)
		del(t, x, k)
		n := x.Depth()
		if n > deep || n < deep-1 || n == 0 != (i == 699) {
			t.Fatalf("Depth = %d, and was %d", n, deep)
		}
		deep = n
	}
}

func TestDrop(t *testing.T) {
	for _, n := range []int{0, 1, 2, 3, 50, 300} {
		d := disk(t, 400)
		p := opened(t, d)
		x, y := tree(t, p, 3), tree(t, p, 4)
		put(t, y, "stays", "here")
		want := records{}
		for i := range n {
			k, v := long(i)
			put(t, x, k, v)
			want[k] = v
		}
		commit(t, p)
		is(t, "Drop", x.Drop(), api.OK)
		fits(t, p, 399, x, nil)
		if at, e := p.Root(3); at != 0 || e != api.OK {
			t.Errorf("Root = %d, error %d", at, e)
		}
		if e := matches(y, records{"stays": "here"}); e != nil {
			t.Error(e)
		}
		put(t, x, "new", "record")
		fits(t, p, 399, x, records{"new": "record"})
		p.Back()
		if e := matches(x, want); e != nil {
			t.Error(e)
		}
		is(t, "Drop", x.Drop(), api.OK)
		is(t, "Drop again", x.Drop(), api.OK)
		commit(t, p)
		p = opened(t, d)
		fits(t, p, 399, tree(t, p, 3), nil)
	}
}

// fill fills the tree of the root 6.
func fill(t *testing.T, p *pager.Pager, l ...api.Pair) *btree.Tree {
	t.Helper()
	x, e := btree.Fill(p, 6, l)
	if e != api.OK || x == nil {
		t.Fatalf("Fill of %d: %v, error %d", len(l), x, e)
	}
	return x
}

func TestFill(t *testing.T) {
	p := ready(t, 200)
	fits(t, p, 200, fill(t, p), nil)
	fits(t, p, 200, fill(t, p, api.Pair{Key: "a", Value: "b"}), records{"a": "b"})
	want := records{}
	var l []api.Pair
	for i := range 100 {
		k, v := long(i * 7 % 100)
		l = append(l, api.Pair{Key: k, Value: v})
		want[k] = v
	}
	before := slices.Clone(l)
	fits(t, p, 200, fill(t, p, l...), want)
	if !slices.Equal(l, before) {
		t.Error("Fill changes what is handed in")
	}
	// The last one of a key stays.
	x := fill(t, p, api.Pair{Key: "b", Value: "1"}, api.Pair{Key: "a", Value: "2"}, api.Pair{Key: "b", Value: "3"})
	fits(t, p, 200, x, records{"a": "2", "b": "3"})
	fits(t, p, 200, tree(t, p, 6), records{"a": "2", "b": "3"})
	put(t, x, "c", "4")
	fits(t, p, 200, x, records{"a": "2", "b": "3", "c": "4"})
	fits(t, p, 200, fill(t, p), nil)
}

func TestFillOfWhatMayNotBe(t *testing.T) {
	p := ready(t, 200)
	good := api.Pair{Key: "a", Value: "b"}
	for _, i := range []int{-1, 16, math.MaxInt} {
		if x, e := btree.Fill(p, i, []api.Pair{{}}); x != nil || e != api.ErrArg {
			t.Errorf("Fill(%d): %v, error %d", i, x, e)
		}
	}
	for _, c := range []struct {
		want api.Errno
		l    []api.Pair
	}{
		{api.ErrKey, []api.Pair{{Key: "", Value: "b"}}},
		{api.ErrKey, []api.Pair{good, {Key: strings.Repeat("k", 33)}, {Key: "b", Value: strings.Repeat("v", 81)}}},
		{api.ErrBig, []api.Pair{good, {Key: "b", Value: strings.Repeat("v", 81)}, {}}},
	} {
		fill(t, p, api.Pair{Key: "old", Value: "record"})
		if x, e := btree.Fill(p, 6, c.l); x != nil || e != c.want {
			t.Errorf("Fill of %q: %v, error %d, not %d", c.l, x, e, c.want)
		}
		// What was put ahead of the error is there, and nothing else.
		want := records{}
		for _, r := range c.l[:len(c.l)-1] {
			if r == good {
				want[r.Key] = r.Value
			}
		}
		fits(t, p, 200, tree(t, p, 6), want)
	}
}

func TestFillWithoutSpace(t *testing.T) {
	p := ready(t, 10)
	var l []api.Pair
	for i := range 30 {
		k, v := long(i)
		l = append(l, api.Pair{Key: k, Value: v})
	}
	if x, e := btree.Fill(p, 6, l); x != nil || e != api.ErrSpace {
		t.Errorf("Fill: %v, error %d", x, e)
	}
	x := tree(t, p, 6)
	want := records{}
	for _, r := range l[:x.Count()] {
		want[r.Key] = r.Value
	}
	fits(t, p, 10, x, want)
}

// P8.5

func TestCommitted(t *testing.T) {
	d := disk(t, 200)
	p := opened(t, d)
	want, more := records{}, records{"other": "tree"}
	for i := range 100 {
		k, v := long(i * 7 % 100)
		put(t, tree(t, p, 0), k, v)
		want[k] = v
		if i%9 == 0 {
			commit(t, p)
			put(t, tree(t, p, 0), "lost", "record")
			del(t, tree(t, p, 0), k)
			p = opened(t, d)
		}
		if e := matches(tree(t, p, 0), want); e != nil {
			t.Fatal(e)
		}
	}
	put(t, tree(t, p, 15), "other", "tree")
	commit(t, p)
	is(t, "Drop", tree(t, p, 0).Drop(), api.OK)
	del(t, tree(t, p, 15), "other")
	p.Back()
	for range 2 {
		x, y := tree(t, p, 0), tree(t, p, 15)
		if e := matches(x, want); e != nil {
			t.Error(e)
		}
		if e := matches(y, more); e != nil {
			t.Error(e)
		}
		if e := owns(p, 200, x, y); e != nil {
			t.Error(e)
		}
		p = opened(t, d)
	}
}

func TestPagesOfTheLongest(t *testing.T) {
	for _, step := range []int{1, 499, 7, 251, 367} {
		p := ready(t, 1000)
		x := tree(t, p, 0)
		for n := 1; n <= 500; n++ {
			k, v := long(n * step % 500)
			put(t, x, k, v)
			if took := 1000 - p.Room(); took > 2*n+1 {
				t.Fatalf("%d records of the longest kind, in steps of %d, take %d pages", n, step, took)
			}
		}
		fits(t, p, 1000, x, all(500))
	}
}

// all are so many records of the longest kind.
func all(n int) records {
	want := records{}
	for i := range n {
		k, v := long(i)
		want[k] = v
	}
	return want
}

// A window of records moves through the keys: pages that get light must be joined, or there would be more and more of them.
func TestPagesOfFew(t *testing.T) {
	for _, n := range []int{1, 2, 3, 5, 8, 20, 60} {
		for _, step := range []int{1, 9999, 77, 5003} {
			p := ready(t, 400)
			x := tree(t, p, 0)
			for i := range 3000 {
				k, v := long(i * step % 10000)
				if i >= n {
					old, _ := long((i - n) * step % 10000)
					del(t, x, old)
				}
				put(t, x, k, v[:i%81])
				if took := 400 - p.Room(); took > 4*n+8 {
					t.Fatalf("%d records, in steps of %d, take %d pages", n, step, took)
				}
			}
			if x.Depth() > 5 || x.Count() != n {
				t.Errorf("Depth of %d records = %d", x.Count(), x.Depth())
			}
		}
	}
}

// Of many records each so manyth stays.
func TestPagesOfThoseThatStay(t *testing.T) {
	for _, stays := range []int{2, 3, 10, 100} {
		p := ready(t, 1000)
		x := tree(t, p, 0)
		want := all(500)
		for k, v := range want {
			put(t, x, k, v)
		}
		for i := range 500 {
			k, _ := long(i)
			if i%stays > 0 {
				del(t, x, k)
				delete(want, k)
			}
		}
		fits(t, p, 1000, x, want)
		if n := len(x.Pages()); n > 2*len(want)+1 {
			t.Errorf("%d records of 500 take %d pages", len(want), n)
		}
	}
}

package btree

import (
	"iter"
	"slices"

	"annalist/api"
)

// start reads the root's page; its number is 0, if the tree is empty.
func (t *Tree) start() (node, api.Errno) {
	if !t.made() {
		return node{}, api.ErrNil
	}
	at, e := t.pager.Root(t.root)
	if e != api.OK || at == 0 {
		return node{}, e
	}
	return t.read(node{at: at})
}

// below reads the page that one of a page's pairs leads to.
func (t *Tree) below(n node, i int) (node, api.Errno) {
	r := n.list[i]
	kid := node{at: unnumber(r.Value), level: n.level - 1, low: r.Key, high: n.high}
	if i+1 < len(n.list) {
		kid.high = n.list[i+1].Key
	}
	return t.read(kid)
}

// read reads the page of a number, of a level (0: any), and with bounds; else what is handed in is answered, with the error. A page that others wrote, and that may not be there, counts as none: so nothing that is gone through comes to a page twice, and all of it ends.
func (t *Tree) read(n node) (node, api.Errno) {
	data, e := t.pager.Get(n.at)
	if e != api.OK {
		return n, e
	}
	got := n
	level, list, ok := unpack(data)
	got.level, got.list = level, list
	if !ok || n.level != 0 && n.level != level || !got.lawful() {
		return n, api.ErrNone
	}
	return got, api.OK
}

// way reads the pages from the root's down to the one that has a key, if any has; none of an empty tree.
func (t *Tree) way(key string) ([]node, api.Errno) {
	var l []node
	n, e := t.start()
	for n.at != 0 && e == api.OK {
		if n.level == leaf {
			return append(l, n), api.OK
		}
		n.next = n.toward(key)
		l = append(l, n)
		n, e = t.below(n, n.next)
	}
	return nil, e
}

// nodes gives a tree's pages, each ahead of those below it, by rising keys; those whose keys all lie below one are left out. One that can't be read comes with its error.
func (t *Tree) nodes(from string) iter.Seq2[node, api.Errno] {
	return func(yield func(node, api.Errno) bool) {
		if n, e := t.start(); n.at != 0 {
			t.walk(n, e, from, yield)
		}
	}
}

// walk gives a page, and those below it, and tells whether more are asked for.
func (t *Tree) walk(n node, e api.Errno, from string, yield func(node, api.Errno) bool) bool {
	if !yield(n, e) {
		return false
	}
	if e != api.OK || n.level == leaf {
		return true
	}
	for i := n.toward(from); i < len(n.list); i++ {
		kid, e := t.below(n, i)
		if !t.walk(kid, e, from, yield) {
			return false
		}
	}
	return true
}

// write writes a page.
func (t *Tree) write(n node) api.Errno {
	return t.pager.Set(n.at, n.pack())
}

// top makes a new root.
func (t *Tree) top(level int, list ...api.Pair) api.Errno {
	at, e := t.pager.Alloc()
	if e != api.OK {
		return e
	}
	if e := t.write(node{at: at, level: level, list: list}); e != api.OK {
		return e
	}
	return t.pager.SetRoot(t.root, at)
}

// splits tells how many pages are taken when the last page of a way has got a pair.
func splits(way []node) int {
	more := 0
	for i := len(way) - 1; i >= 0; i-- {
		if way[i].weight()+more <= room {
			return len(way) - 1 - i
		}
		more = branch
	}
	return len(way) + 1
}

// grow writes the last page of a way, which has got a pair. One that is too full is cut into two; then the page above leads to both.
func (t *Tree) grow(way []node) api.Errno {
	for i := len(way) - 1; i >= 0; i-- {
		n := way[i]
		if n.weight() <= room {
			return t.write(n)
		}
		more, e := t.split(n)
		if e != api.OK {
			return e
		}
		if i == 0 {
			return t.top(n.level+1, api.Pair{Value: number(n.at)}, more)
		}
		up := &way[i-1]
		up.list = slices.Insert(up.list, up.next+1, more)
	}
	return api.OK
}

// split writes a page as two; it tells the pair that leads to the second one.
func (t *Tree) split(n node) (api.Pair, api.Errno) {
	at, e := t.pager.Alloc()
	if e != api.OK {
		return api.Pair{}, e
	}
	cut := n.half()
	right := node{at: at, level: n.level, list: n.list[cut:]}
	n.list = n.list[:cut]
	if e := t.write(n); e != api.OK {
		return api.Pair{}, e
	}
	return api.Pair{Key: right.list[0].Key, Value: number(at)}, t.write(right)
}

// shrink writes the last page of a way, which has lost a pair. One that is too light is joined with one beside it; then the page above has lost a pair, or has another key. Nothing is written ahead of all that must be read.
func (t *Tree) shrink(way []node) api.Errno {
	var set []node
	var gone []int
	i := len(way) - 1
	for ; i > 0 && way[i].light(); i-- {
		up := &way[i-1]
		left, right, e := t.beside(*up, way[i])
		if e != api.OK {
			return e
		}
		if up.join(&left, &right) {
			gone = append(gone, right.at)
		} else {
			set = append(set, right)
		}
		set = append(set, left)
	}
	root := way[0]
	if root.spent() {
		return t.settle(set, append(gone, root.at), root.heir())
	}
	return t.settle(append(set, way[i]), gone, root.at)
}

// beside tells a page with one beside it, which is read: that of the lower keys first.
func (t *Tree) beside(up, n node) (node, node, api.Errno) {
	if up.next+1 < len(up.list) {
		right, e := t.below(up, up.next+1)
		return n, right, e
	}
	left, e := t.below(up, up.next-1)
	return left, n, e
}

// settle writes pages, takes others back, and has the tree begin at a root.
func (t *Tree) settle(set []node, gone []int, root int) api.Errno {
	for _, n := range set {
		if e := t.write(n); e != api.OK {
			return e
		}
	}
	for _, at := range gone {
		if e := t.pager.Free(at); e != api.OK {
			return e
		}
	}
	was, e := t.pager.Root(t.root)
	if e != api.OK || was == root {
		return e
	}
	return t.pager.SetRoot(t.root, root)
}

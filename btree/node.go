package btree

import (
	"slices"
	"strings"

	"annalist/api"
)

const (
	// leaf is the level of pages with records. A page of a level above leads to some of the level below.
	leaf = 1
	// head is the bytes ahead of a page's pairs: its level, and how many pairs it has.
	head = 2
	// lengths is the bytes ahead of a pair: those of its key, and of its value.
	lengths = 2
	// link is the bytes of a page's number.
	link = 2
	// room is the bytes that a page has for pairs.
	room = api.Size - head
	// branch is the most bytes that a pair with a page's number takes.
	branch = lengths + api.MaxKey + link
)

// node is a page of a tree.
type node struct {
	// at is its number; 0: there is none.
	at    int
	level int
	// low and high are what its keys must not lie below, and must lie below; empty, where there is no such bound.
	low, high string
	// list is its pairs, by rising keys: records, or numbers of pages, each under its low.
	list []api.Pair
	// next is which of these pages the way to a key leads to.
	next int
}

// find tells where in a page's list a key is, or else would be.
func (n *node) find(key string) (int, bool) {
	return slices.BinarySearchFunc(n.list, key, func(r api.Pair, key string) int {
		return strings.Compare(r.Key, key)
	})
}

// toward tells which of the pages below has a key, if any has; the first one, if the key lies below all.
func (n *node) toward(key string) int {
	i, ok := n.find(key)
	if !ok && i > 0 {
		i--
	}
	return i
}

// put has a record in the list, in the place of one of its key.
func (n *node) put(r api.Pair) {
	i, ok := n.find(r.Key)
	if ok {
		n.list[i] = r
		return
	}
	n.list = slices.Insert(n.list, i, r)
}

// give gives the records from a key on, and tells whether more are asked for.
func (n *node) give(from string, yield func(string, string) bool) bool {
	if n.level > leaf {
		return true
	}
	i, _ := n.find(from)
	for _, r := range n.list[i:] {
		if !yield(strings.Clone(r.Key), strings.Clone(r.Value)) {
			return false
		}
	}
	return true
}

// size is the bytes that a pair is taken to need. One with a page's number needs the most that it may: so a page never gets too small for its pairs when a key gives way to a longer one.
func (n *node) size(r api.Pair) int {
	if n.level > leaf {
		return branch
	}
	return lengths + len(r.Key) + len(r.Value)
}

// weight is the bytes that all pairs are taken to need.
func (n *node) weight() int {
	sum := 0
	for _, r := range n.list {
		sum += n.size(r)
	}
	return sum
}

// light tells whether a page is less than half full.
func (n *node) light() bool {
	return 2*n.weight() < room
}

// half tells where the list is cut into two that are most alike: no pair takes half of a page, so each of them fits.
func (n *node) half() int {
	all := n.weight()
	cut, least, left := 0, all, 0
	for i, r := range n.list {
		if apart := max(all-2*left, 2*left-all); apart < least {
			cut, least = i, apart
		}
		left += n.size(r)
	}
	return cut
}

// lawful tells whether a page may be where it is.
func (n *node) lawful() bool {
	if n.level < leaf || n.weight() > room || !n.rising() {
		return false
	}
	if n.level == leaf {
		return n.records()
	}
	return n.links()
}

// rising tells whether the keys are in their order, and in their bounds.
func (n *node) rising() bool {
	for i, r := range n.list {
		switch {
		case len(r.Key) > api.MaxKey:
			return false
		case r.Key < n.low, n.high != "" && r.Key >= n.high:
			return false
		case i > 0 && r.Key <= n.list[i-1].Key:
			return false
		}
	}
	return true
}

// records tells whether the pairs, in their order, are records as they may be put, and at least one.
func (n *node) records() bool {
	for _, r := range n.list {
		if r.Key == "" || len(r.Value) > api.MaxRecord {
			return false
		}
	}
	return len(n.list) > 0
}

// links tells whether the pairs are numbers of pages, at least two, and leave no key between the bounds out.
func (n *node) links() bool {
	for _, r := range n.list {
		if len(r.Value) != link {
			return false
		}
	}
	return len(n.list) > 1 && n.list[0].Key == n.low
}

// pack writes a page.
func (n *node) pack() string {
	b := []byte{byte(n.level), byte(len(n.list))}
	for _, r := range n.list {
		b = append(b, byte(len(r.Key)), byte(len(r.Value)))
		b = append(b, r.Key...)
		b = append(b, r.Value...)
	}
	return string(b)
}

// unpack reads a page's level and pairs; false: it has fewer bytes than they need.
func unpack(data string) (int, []api.Pair, bool) {
	level, count := int(data[0]), int(data[1])
	list := make([]api.Pair, 0, count)
	data = data[head:]
	for range count {
		if len(data) < lengths {
			return 0, nil, false
		}
		val := lengths + int(data[0])
		end := val + int(data[1])
		if len(data) < end {
			return 0, nil, false
		}
		list = append(list, api.Pair{Key: data[lengths:val], Value: data[val:end]})
		data = data[end:]
	}
	return level, list, true
}

// number writes a page's number.
func number(at int) string {
	return string([]byte{byte(at), byte(at >> 8)})
}

// unnumber reads a page's number.
func unnumber(s string) int {
	return int(s[0]) | int(s[1])<<8
}

// join puts all pairs of two pages that a page leads to into the first one, true; or, if that is too small, shares them out.
func (n *node) join(left, right *node) bool {
	at, _ := n.find(right.low)
	both := node{level: left.level, list: slices.Concat(left.list, right.list)}
	if both.weight() <= room {
		left.list = both.list
		n.list = slices.Delete(n.list, at, at+1)
		return true
	}
	cut := both.half()
	left.list, right.list = both.list[:cut], both.list[cut:]
	n.list[at].Key = right.list[0].Key
	return false
}

// spent tells whether a root leads to one page alone, or has no record.
func (n *node) spent() bool {
	return len(n.list) == 0 || n.level > leaf && len(n.list) == 1
}

// heir is what comes into the place of a root that is spent: the page that it leads to; 0: none.
func (n *node) heir() int {
	if n.level == leaf {
		return 0
	}
	return unnumber(n.list[0].Value)
}

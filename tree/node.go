package tree

import (
	"bytes"
	"slices"

	"vestibule/api"
)

// A node's page begins with its level, 0 of a lowest page, and with how many entries it has, a byte each. The entries
// follow, each with two bytes ahead: how long its key is, and its value. The rest of the page is noughts.
const (
	nodeHead   = 2
	entryHead  = 2
	childWidth = 2                       // bytes of a page's number, which is the value of an entry above the lowest pages
	room       = api.PageSize - nodeHead // bytes that the entries of a node take at most
)

// entry is a key with its value. Above the lowest pages the value is the number of a page, and the keys below that page
// are not below the entry's key, but below the next entry's. The first entry's key is empty: no key is below it.
type entry struct {
	key, value []byte
}

// entryOf is the entry above the lowest pages that leads to a page.
func entryOf(key []byte, page int) entry {
	return entry{key, []byte{byte(page >> 8), byte(page)}}
}

// size is how many bytes an entry takes.
func (e entry) size() int { return entryHead + len(e.key) + len(e.value) }

// item is an entry of a lowest page as it is told.
func (e entry) item() api.Item { return api.Item{Key: string(e.key), Value: string(e.value)} }

// node is what stands on a page of a tree.
type node struct {
	page    int
	level   int
	entries []entry
	was     string // the page's bytes as they were read; empty, if the node is new
	had     int    // how many bytes its entries took then
}

// rest is what is left of a page that is read from its beginning on.
type rest struct {
	b     []byte
	short bool // more was asked for than was left
}

// cut is the next bytes, with no spare room: what is added to them does not run into those behind. Where there are not
// as many, it is noughts.
func (r *rest) cut(n int) []byte {
	if n > len(r.b) {
		r.short = true
		return make([]byte, n)
	}
	s := r.b[:n:n]
	r.b = r.b[n:]
	return s
}

// nodeOf is the node that stands on a page; false, if none does.
func nodeOf(page int, s string) (*node, bool) {
	r := rest{b: []byte(s)}
	head := r.cut(nodeHead)
	n := &node{page: page, level: int(head[0]), was: s, entries: make([]entry, head[1])}
	for i := range n.entries {
		sizes := r.cut(entryHead)
		n.entries[i] = entry{r.cut(int(sizes[0])), r.cut(int(sizes[1]))}
	}
	n.had = n.size()
	return n, !r.short && n.stands()
}

// stands tells whether the node has entries, and each may be where it is.
func (n *node) stands() bool {
	for i, e := range n.entries {
		first := n.level > 0 && i == 0
		if (len(e.key) == 0) != first || len(e.key) > api.MaxKey || len(e.value) > api.MaxValue {
			return false
		}
		if n.level > 0 && (len(e.value) != childWidth || n.child(i) >= api.MaxPages) {
			return false
		}
	}
	return len(n.entries) > 0
}

// text is the page's bytes with the node on them.
func (n *node) text() string {
	b := make([]byte, 0, api.PageSize)
	b = append(b, byte(n.level), byte(len(n.entries)))
	for _, e := range n.entries {
		b = append(b, byte(len(e.key)), byte(len(e.value)))
		b = append(b, e.key...)
		b = append(b, e.value...)
	}
	return string(b[:api.PageSize])
}

// size is how many bytes the node's entries take.
func (n *node) size() int { return sizeOf(n.entries) }

// sizeOf is how many bytes entries take.
func sizeOf(l []entry) int {
	sum := 0
	for _, e := range l {
		sum += e.size()
	}
	return sum
}

// find is where a key stands among the entries, and true; or where it would stand.
func (n *node) find(key []byte) (int, bool) {
	return slices.BinarySearchFunc(n.entries, key, func(e entry, key []byte) int {
		return bytes.Compare(e.key, key)
	})
}

// lead is which entry leads to a key, above the lowest pages.
func (n *node) lead(key []byte) int {
	at, exact := n.find(key)
	if exact {
		return at
	}
	return at - 1
}

// child is the number of the page to which an entry leads.
func (n *node) child(at int) int {
	v := n.entries[at].value
	return int(v[0])<<8 | int(v[1])
}

// remove takes an entry out.
func (n *node) remove(at int) {
	n.entries = slices.Delete(n.entries, at, at+1)
	if n.level > 0 && len(n.entries) > 0 {
		n.entries[0].key = nil
	}
}

// middle is the entry with which the second of two halves begins that are about as large as one another.
func (n *node) middle() int {
	size, ahead := n.size(), 0
	for at, e := range n.entries {
		if 2*ahead+e.size() >= size {
			return at
		}
		ahead += e.size()
	}
	return len(n.entries)
}

// halve leaves the node its first half, and gives the second one to a new node. It answers a key that stands between them.
func (n *node) halve(other *node) []byte {
	at := n.middle()
	n.entries, other.entries = n.entries[:at:at], n.entries[at:]
	first := &other.entries[0]
	if n.level == 0 {
		return between(n.entries[at-1].key, first.key)
	}
	key := first.key
	first.key = nil
	return key
}

// between is the shortest text that is above a key, and not above another: the shorter the keys above the lowest pages,
// the more of them a page takes.
func between(below, above []byte) []byte {
	n := 0
	for n < len(below) && n < len(above) && below[n] == above[n] {
		n++
	}
	return slices.Clone(above[:min(n+1, len(above))])
}

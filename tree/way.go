package tree

import (
	"bytes"

	"vestibule/api"
)

// load is the node that stands on a page; one without entries, if none does: then each way ends there.
func (t *Tree) load(page int) *node {
	s, e := t.action.Read(page)
	if e != api.OK {
		return &node{page: page}
	}
	n, ok := nodeOf(page, s)
	if !ok {
		return &node{page: page}
	}
	return n
}

// below is the node to which an entry leads. Its level is one less, so that no way comes round.
func (t *Tree) below(n *node, at int) *node {
	page := n.child(at)
	if b := t.load(page); b.level == n.level-1 {
		return b
	}
	return &node{page: page}
}

// step is a node of a way down, and the entry by which the way goes on; at its end: where the key stands, or would.
type step struct {
	n  *node
	at int
}

// way is the way from the topmost page down to a key, and whether the key is there.
func (t *Tree) way(top int, key []byte) ([]step, bool) {
	var w []step
	n := t.load(top)
	for n.level > 0 {
		at := n.lead(key)
		w = append(w, step{n, at})
		n = t.below(n, at)
	}
	at, exact := n.find(key)
	return append(w, step{n, at}), exact
}

// The sides to which a neighbour may stand.
const (
	left  = -1
	right = 1
)

// edge is the outermost entry, on a side, of what stands below a node.
func (t *Tree) edge(n *node, side int) (api.Item, bool) {
	for {
		at := 0
		if side == right {
			at = len(n.entries) - 1
		}
		switch {
		case len(n.entries) == 0:
			return api.Item{}, false
		case n.level == 0:
			return n.entries[at].item(), true
		}
		n = t.below(n, at)
	}
}

// beyond is the entry that comes next, on a side, to all that stand below a way's last page.
func (t *Tree) beyond(w []step, side int) (api.Item, bool) {
	for i := len(w) - 2; i >= 0; i-- {
		n, at := w[i].n, w[i].at+side
		if at >= 0 && at < len(n.entries) {
			return t.edge(t.below(n, at), -side)
		}
	}
	return api.Item{}, false
}

// seen are the pages that were gone to, by their numbers.
type seen [api.MaxPages]bool

// walk goes to a node and all below it, to each page once.
func (t *Tree) walk(n *node, been *seen, visit func(*node)) {
	if len(n.entries) == 0 {
		return
	}
	been[n.page] = true
	visit(n)
	if n.level == 0 {
		return
	}
	for at := range n.entries {
		if !been[n.child(at)] {
			t.walk(t.below(n, at), been, visit)
		}
	}
}

// sound tells whether a node and all below it stand as they must, with keys from one on, and below another (nil: below
// none). No page is then on two ways: its keys would be in two stretches that share none.
func (t *Tree) sound(n *node, from, to []byte) bool {
	for at, e := range n.entries {
		if n.level > 0 && at == 0 {
			e.key = from
		}
		next := to
		if at+1 < len(n.entries) {
			next = n.entries[at+1].key
		}
		if bytes.Compare(e.key, from) < 0 || next != nil && bytes.Compare(e.key, next) >= 0 {
			return false
		}
		if n.level > 0 && !t.sound(t.below(n, at), e.key, next) {
			return false
		}
	}
	return len(n.entries) > 0
}

package tree

import (
	"maps"
	"slices"

	"vestibule/api"
)

// change is one of a tree that goes on. Its nodes stay in hand till nothing can fail any more: a change that lacks a page
// leaves no trace.
//
// Behind each change no two neighbours below one node would fit one page: those that would were joined. So a page with
// little on it stands beside one with much, and there are at most twice as many pages as keys, and one. No entry moves
// over to a neighbour instead: the key above the two might grow by it, and where that finds no room, Del would need a page.
type change struct {
	*Tree
	nodes map[int]*node // those in hand, by their pages
	way   []step        // to what changes: first a node above the topmost page, that stands on none
	taken []int         // pages that the space gave
	gone  []int         // pages on which the tree stands no more
}

// change begins one of a key; true, if the tree holds it.
func (t *Tree) change(top int, key []byte) (*change, bool) {
	w, exact := t.way(top, key)
	above := &node{level: w[0].n.level + 1}
	c := &change{Tree: t, nodes: map[int]*node{}, way: append([]step{{n: above}}, w...)}
	if top != 0 {
		above.entries = []entry{entryOf(nil, top)}
		for _, s := range w {
			c.nodes[s.n.page] = s.n
		}
	}
	return c, exact
}

// end is the last step of the way: where the key stands, or would.
func (c *change) end() step { return c.way[len(c.way)-1] }

// child is the node in hand to which an entry leads.
func (c *change) child(n *node, at int) *node {
	page := n.child(at)
	if x := c.nodes[page]; x != nil && x.level == n.level-1 {
		return x
	}
	c.nodes[page] = c.below(n, at)
	return c.nodes[page]
}

// house gives a page to a node.
func (c *change) house(n *node) api.Errno {
	page, e := c.action.Alloc()
	if e != api.OK {
		return e
	}
	n.page = page
	c.taken = append(c.taken, page)
	c.nodes[page] = n
	return api.OK
}

// leave lets a node's page be gone.
func (c *change) leave(n *node) {
	delete(c.nodes, n.page)
	c.gone = append(c.gone, n.page)
}

// plant lets a tree that stands on no page have its first one.
func (c *change) plant() api.Errno {
	n := c.end().n
	if e := c.house(n); e != api.OK {
		return e
	}
	c.way[0].n.entries = []entry{entryOf(nil, n.page)}
	return api.OK
}

// settle lets all nodes of the way, from the lowest one up, stand as they must, and writes them.
func (c *change) settle() api.Errno {
	for i := len(c.way) - 2; i >= 0; i-- {
		if e := c.fit(c.way[i].n, c.way[i].at); e != api.OK {
			return c.undo(e)
		}
	}
	top, e := c.crown()
	if e != api.OK {
		return c.undo(e)
	}
	c.write()
	return c.action.SetRoot(c.root, top)
}

// fit lets a node that has changed fit one page, and not be one with its neighbours. n is the node above it.
func (c *change) fit(n *node, at int) api.Errno {
	x := c.child(n, at)
	switch size := x.size(); {
	case size == 0: // its neighbours are too full to be one: each was so with its single entry
		n.remove(at)
		c.leave(x)
	case size > room:
		return c.split(n, at)
	case size < x.had:
		c.join(n, at)
		c.join(n, at-1)
	}
	return api.OK
}

// split parts a node that does not fit one page into two.
func (c *change) split(n *node, at int) api.Errno {
	x := c.child(n, at)
	y := &node{level: x.level}
	if e := c.house(y); e != api.OK {
		return e
	}
	key := x.halve(y)
	n.entries = slices.Insert(n.entries, at+1, entryOf(key, y.page))
	c.join(n, at+1)
	c.join(n, at-1)
	return api.OK
}

// join lets two neighbours be one, if they fit one page: the one to which an entry leads, and the one behind it.
func (c *change) join(n *node, at int) {
	if at < 0 || at+1 >= len(n.entries) {
		return
	}
	x, y := c.child(n, at), c.child(n, at+1)
	if x.level != y.level || len(y.entries) == 0 {
		return
	}
	seam := len(x.entries)
	l := slices.Concat(x.entries, y.entries)
	if x.level > 0 {
		l[seam].key = n.entries[at+1].key
	}
	if sizeOf(l) > room {
		return
	}
	x.entries = l
	n.remove(at + 1)
	c.leave(y)
	if x.level > 0 {
		c.join(x, seam-1) // they are neighbours from now on
	}
}

// crown is the topmost page: none, if the tree has no keys; never one above a single page.
func (c *change) crown() (int, api.Errno) {
	above := c.way[0].n
	switch len(above.entries) {
	case 0:
		return 0, api.OK
	case 1:
		n := c.child(above, 0)
		for n.level > 0 && len(n.entries) == 1 {
			c.leave(n)
			n = c.child(n, 0)
		}
		return n.page, api.OK
	}
	e := c.house(above)
	return above.page, e
}

// write lets the pages be as the nodes in hand are, and those that are gone be free.
func (c *change) write() {
	for _, page := range slices.Sorted(maps.Keys(c.nodes)) {
		n := c.nodes[page]
		if s := n.text(); s != n.was {
			c.action.Write(page, 0, s)
		}
	}
	for _, page := range c.gone {
		c.action.Free(page)
	}
}

// undo gives back what the space gave.
func (c *change) undo(e api.Errno) api.Errno {
	for _, page := range c.taken {
		c.action.Free(page)
	}
	return e
}

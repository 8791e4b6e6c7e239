package tree_test

import (
	"strconv"
	"strings"
	"testing"

	"vestibule/api"
	"vestibule/space"
)

// laidNode is what stands on a page of a tree, by the layout that page lays.
type laidNode struct {
	level   int
	entries []api.Item
	size    int // bytes of the entries
}

func nodeAt(t *testing.T, a *space.Action, page int) laidNode {
	t.Helper()
	s, e := a.Read(page)
	if e != api.OK {
		t.Fatalf("Read(%d): %d", page, e)
	}
	n := laidNode{level: int(s[0])}
	at := 2
	for range s[1] {
		key, value := at+2, at+2+int(s[at])
		end := value + int(s[at+1])
		n.entries = append(n.entries, api.Item{Key: s[key:value], Value: s[value:end]})
		at = end
	}
	n.size = at - 2
	if s[at:] != strings.Repeat("\x00", 512-at) {
		t.Fatalf("page %d: more than its entries", page)
	}
	return n
}

// below is the node to which an entry leads.
func (n laidNode) below(t *testing.T, a *space.Action, at int) laidNode {
	t.Helper()
	v := n.entries[at].Value
	return nodeAt(t, a, int(v[0])<<8|int(v[1]))
}

// Te3 rests on this: no two neighbours below one node would fit one page, and nothing stands above a single page.
func tight(t *testing.T, what string, a *space.Action) {
	t.Helper()
	top, _ := a.Root(0)
	if top == 0 {
		return
	}
	n := nodeAt(t, a, top)
	if n.level > 0 && len(n.entries) == 1 {
		t.Fatalf("%s: a topmost page above a single one", what)
	}
	n.tight(t, what, a)
}

func (n laidNode) tight(t *testing.T, what string, a *space.Action) {
	t.Helper()
	if n.level == 0 {
		return
	}
	x := n.below(t, a, 0)
	x.tight(t, what, a)
	for at, e := range n.entries[1:] {
		y := n.below(t, a, at+1)
		y.tight(t, what, a)
		size := x.size + y.size
		if x.level > 0 {
			size += len(e.Key)
		}
		if size <= 510 {
			t.Fatalf("%s: two neighbours of %d and %d bytes at level %d", what, x.size, y.size, x.level)
		}
		x = y
	}
}

// Keys that are long, but differ near their beginnings, take little above the lowest pages.
func TestFewPagesAbove(t *testing.T) {
	_, a, tr := fresh(t)
	for i := range 1000 {
		put(t, tr, strconv.Itoa(1000+i)+strings.Repeat("k", 92), "v", true)
	}
	lowest := 0
	for _, page := range tr.Pages() {
		if nodeAt(t, a, page).level == 0 {
			lowest++
		}
	}
	if above := len(tr.Pages()) - lowest; above > lowest/20 {
		t.Errorf("%d pages above %d", above, lowest)
	}
}

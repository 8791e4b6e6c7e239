package tree_test

import (
	"strings"
	"testing"

	"vestibule/api"
	"vestibule/space"
	"vestibule/tree"
)

// page is a page of a tree with the level and these entries; each has its key, then its value.
func page(level int, entries ...string) string {
	b := []byte{byte(level), byte(len(entries) / 2)}
	for i := 0; i < len(entries); i += 2 {
		b = append(b, byte(len(entries[i])), byte(len(entries[i+1])))
		b = append(b, entries[i]+entries[i+1]...)
	}
	return string(b)
}

// to is the value that leads to a page.
func to(page int) string { return string([]byte{byte(page >> 8), byte(page)}) }

// laid are pages from 1 on, the first one of them topmost at the root 0.
func laid(t *testing.T, pages ...string) *tree.Tree {
	t.Helper()
	_, a, tr := fresh(t)
	for _, s := range pages {
		n, e := a.Alloc()
		if e != api.OK || a.Write(n, 0, s) != api.OK {
			t.Fatalf("page %d: %d", n, e)
		}
	}
	a.SetRoot(0, 1)
	return tr
}

// Te2: what stands as a tree must does so, whoever laid it.
func TestCheck(t *testing.T) {
	for what, tr := range map[string]*tree.Tree{
		"one page":   laid(t, page(0, "a", "", "b", "v")),
		"two levels": laid(t, page(1, "", to(2), "b", to(3)), page(0, "a", "x"), page(0, "b", "y", "c", "z")),
		"three levels": laid(t, page(2, "", to(2), "c", to(3)), page(1, "", to(4), "b", to(5)), page(1, "", to(6)),
			page(0, "a", ""), page(0, "b", ""), page(0, "c", "")),
	} {
		if !tr.Check() {
			t.Errorf("%s: Check", what)
		}
	}
}

// Te2: what does not stand as a tree must is told.
func TestCheckSpoiled(t *testing.T) {
	a, b, c := page(0, "a", ""), page(0, "b", ""), page(0, "c", "")
	k, v := long(4), strings.Repeat("v", 32)
	for what, tr := range map[string]*tree.Tree{
		"keys that fall":              laid(t, page(0, "b", "", "a", "")),
		"a key twice":                 laid(t, page(0, "a", "", "a", "")),
		"keys that fall over pages":   laid(t, page(1, "", to(2), "b", to(3)), b, a),
		"a key twice over pages":      laid(t, page(1, "", to(2), "b", to(3)), b, b),
		"keys above that fall":        laid(t, page(1, "", to(2), "c", to(4), "b", to(3)), a, b, c),
		"keys above twice":            laid(t, page(1, "", to(2), "b", to(3), "b", to(4)), a, b, c),
		"a key above what is below":   laid(t, page(1, "", to(2), "a", to(3)), a, b),
		"a key below that above it":   laid(t, page(1, "", to(2), "bb", to(3)), a, b),
		"no keys":                     laid(t, page(0)),
		"a lowest page without keys":  laid(t, page(1, "", to(2), "b", to(3)), page(0), b),
		"no pages below":              laid(t, page(1)),
		"a page on two ways":          laid(t, page(1, "", to(2), "b", to(2)), a),
		"a page on two ways, apart":   laid(t, page(2, "", to(2), "b", to(3)), page(1, "", to(4)), page(1, "", to(4)), a),
		"itself below":                laid(t, page(1, "", to(1))),
		"ways of two lengths":         laid(t, page(2, "", to(2), "b", to(3)), page(1, "", to(4)), b, a),
		"ways of two lengths below":   laid(t, page(1, "", to(2), "b", to(3)), a, page(1, "", to(4)), b),
		"no page below":               laid(t, page(1, "", to(2), "b", to(9)), a),
		"the page 0 below":            laid(t, page(1, "", to(0), "b", to(2)), b),
		"a page above all below":      laid(t, page(1, "", to(2), "b", to(65535)), a),
		"an empty key":                laid(t, page(0, "", "", "a", "")),
		"a key that is too long":      laid(t, page(0, strings.Repeat("a", 97), "")),
		"a value that is too long":    laid(t, page(0, "a", strings.Repeat("v", 33))),
		"a page's end ahead of it":    laid(t, strings.Repeat("\x00\xff", 256)),
		"a page's end within it":      laid(t, page(0, k[0], v, k[1], v, k[2], v, k[3], v)[:512]),
		"a topmost page that is none": laid(t),
	} {
		if tr.Check() {
			t.Errorf("%s: Check", what)
		}
		all(tr, "b")
		tr.Drop()
	}
}

// Te2: wherever a bit of a tree's pages is another, the tree does not stand as it must, or its keys rise and are found.
func TestCheckEachBit(t *testing.T) {
	_, a, tr := fresh(t)
	for i, key := range long(20) {
		put(t, tr, key[60+i%12:], "v", true)
	}
	top, _ := a.Root(0)
	for _, page := range tr.Pages() {
		was, _ := a.Read(page)
		spoiled := 0
		for i := range 8 * len(was) {
			a.Write(page, i/8, string([]byte{was[i/8] ^ 1<<(i%8)}))
			if !tr.Check() {
				spoiled++
			} else if !rises(tr) {
				t.Fatalf("page %d, bit %d: Check", page, i)
			}
			a.Write(page, 0, was)
		}
		if spoiled < 100 && page == top || spoiled == 0 {
			t.Errorf("page %d: %d bits", page, spoiled)
		}
	}
}

// rises tells whether a tree's keys rise, each is found, and there are as many as Len tells.
func rises(tr *tree.Tree) bool {
	n := 0
	for item, ok := tr.From(""); ok; item, ok = tr.Next(item.Key) {
		if value, e := tr.Get(item.Key); value != item.Value || e != api.OK {
			return false
		}
		n++
	}
	return n == tr.Len()
}

// all does each call of a tree.
func all(tr *tree.Tree, key string) {
	tr.Check()
	tr.Len()
	tr.Pages()
	tr.Last()
	tr.Get(key)
	tr.From(key)
	tr.Next(key)
	tr.Prev(key)
	tr.Put(key, "v")
	tr.Del(key)
	tr.Put(key+key, key)
	tr.Check()
}

// R1: each call ends, whatever stands on the pages.
func TestStrangePages(t *testing.T) {
	c := chance(8)
	for round := range 300 {
		_, a, tr := fresh(t)
		count := 1 + c.below(12)
		for range count {
			a.Alloc()
		}
		for n := range count {
			strange(&c, a, n+1, count)
		}
		a.SetRoot(0, c.below(count+3))
		for range 20 {
			all(tr, c.text(c.below(97), 3))
		}
		if round%2 == 0 {
			for item, ok := tr.Last(); ok; item, ok = tr.Last() {
				if tr.Del(item.Key) != api.OK {
					break
				}
			}
		}
		tr.Drop()
		tr.Check()
	}
}

// strange lays bytes of all sorts on a page, or some that look like a tree's.
func strange(c *chance, a *space.Action, n, count int) {
	b := []byte{byte(c.below(4)), byte(c.below(9))}
	if c.below(3) == 0 {
		b[0] = byte(c.below(256))
		b[1] = byte(c.below(256))
	}
	for len(b) < 400 {
		if b[0] == 0 || c.below(40) == 0 {
			size := c.below(40)
			b = append(b, byte(size), byte(c.below(8)))
			b = append(b, c.text(size+int(b[len(b)-1]), 3)...)
			continue
		}
		size := min(c.below(4), len(b)-2) // the first one has an empty key
		b = append(b, byte(size), 2)
		b = append(b, c.text(size, 3)+to(c.below(count+2))...)
	}
	a.Write(n, 0, string(b))
}

// R1: calls end soon, also where each page leads to one and the same page below, again and again.
func TestManyWays(t *testing.T) {
	var pages []string
	for level := 200; level > 0; level-- {
		entries := []string{"", to(202 - level)}
		for b := byte(1); b < 90; b++ {
			entries = append(entries, string([]byte{b}), to(202-level))
		}
		pages = append(pages, page(level, entries...))
	}
	for _, lowest := range []string{page(0, "a", "b"), page(0), "", page(3, "", to(1))} {
		tr := laid(t, append(pages[:200:200], lowest)...)
		if tr.Check() {
			t.Error("Check")
		}
		for _, key := range []string{"", "\x01", "a", "z"} {
			all(tr, key)
		}
		tr.Drop()
	}
}

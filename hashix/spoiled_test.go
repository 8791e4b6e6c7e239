package hashix_test

import (
	"slices"
	"strings"
	"testing"

	"vestibule/api"
	"vestibule/hashix"
	"vestibule/method"
	"vestibule/space"
)

// crowded is an index of several buckets, one of them of several pages.
func crowded(t *testing.T) (*space.Action, *hashix.Hash) {
	t.Helper()
	_, a, x := fresh(t)
	for i, key := range longest(80) {
		answers(t, x.Insert(entry(key, i)), api.OK)
		answers(t, x.Insert(entry(text("k"), i)), api.OK)
	}
	if n := len(x.Pages()); n < 10 {
		t.Fatalf("%d pages", n)
	}
	return a, x
}

// Am1: Check tells a page that holds nothing, and one that holds what another one does.
func TestCheckSpoiled(t *testing.T) {
	a, x := crowded(t)
	for _, page := range x.Pages() {
		was, _ := a.Read(page)
		others := []string{strings.Repeat("\x00", api.PageSize), strings.Repeat("\xff", api.PageSize)}
		for _, other := range x.Pages() {
			if other != page {
				b, _ := a.Read(other)
				others = append(others, b)
			}
		}
		for i, other := range others {
			a.Write(page, 0, other)
			if x.Check() {
				t.Errorf("page %d: Check of the %dth", page, i)
			}
			a.Write(page, 0, was)
		}
	}
	if !x.Check() {
		t.Error("Check")
	}
}

// Am1: Check tells whichever byte of the root's page is another one.
func TestCheckRoot(t *testing.T) {
	a, x := crowded(t)
	page, _ := a.Root(2)
	was, _ := a.Read(page)
	for at := range was {
		for _, flip := range []byte{1, 2, 0x80, 0xff} {
			a.Write(page, at, string([]byte{was[at] ^ flip}))
			if x.Check() {
				t.Errorf("byte %d: Check", at)
			}
			a.Write(page, 0, was)
		}
	}
}

// Am1: Check tells a page that is free, and a root at which there is none.
func TestCheckFreed(t *testing.T) {
	_, whole := crowded(t)
	for i := range whole.Pages() {
		a, x := crowded(t)
		a.Free(x.Pages()[i])
		if x.Check() {
			t.Errorf("the %dth page: Check", i)
		}
		all(x)
	}
	for _, root := range []int{1, 4095, 4096, 1 << 16, 1<<31 - 1} {
		_, a, x := fresh(t)
		a.SetRoot(2, root)
		if x.Check() || len(x.Entries()) != 0 || len(x.Pages()) != 0 {
			t.Errorf("root %d: %t %v %v", root, x.Check(), x.Entries(), x.Pages())
		}
		all(x)
	}
}

// Am1, Ha3: wherever a byte of a page is another one, Check tells it, or it is an index still: of as many entries, each of
// which is found.
func TestCheckBytes(t *testing.T) {
	a, x := crowded(t)
	n := len(x.Entries())
	passed := 0
	for _, page := range x.Pages() {
		was, _ := a.Read(page)
		for at := range was {
			a.Write(page, at, string([]byte{was[at] ^ byte(1+at%255)}))
			if x.Check() {
				passed++
				isSound(t, x, n)
				if strings.Trim(was[at:], "\x00") == "" {
					t.Errorf("page %d, byte %d, behind all entries: Check", page, at)
				}
			}
			a.Write(page, at, was[at:at+1])
		}
	}
	if passed == 0 || !x.Check() {
		t.Errorf("%d, Check %t", passed, x.Check())
	}
}

// isSound tells where an index is not one of so many entries.
func isSound(t *testing.T, x *hashix.Hash, n int) {
	t.Helper()
	p := method.NewPlain()
	for _, e := range x.Entries() {
		answers(t, p.Insert(e), api.OK)
	}
	l := p.Entries()
	if len(l) != n {
		t.Fatalf("%d entries, not %d", len(l), n)
	}
	for i, e := range l {
		if i == 0 || !sameDatum(e.Key, l[i-1].Key) {
			want, _ := p.Find(e.Key)
			finds(t, x, e.Key, want...)
		}
	}
}

// all does each call of an index.
func all(x *hashix.Hash) {
	one, low := integer(1), text("a")
	x.Check()
	x.Entries()
	x.Pages()
	x.Buckets()
	x.Bucket(one)
	x.Find(one)
	x.Find(low)
	for i := range 40 {
		x.Insert(entry(one, i))
		x.Insert(entry(low, i))
		x.Insert(entry(integer(i), i))
	}
	x.Delete(entry(one, 1))
	x.Delete(entry(low, 2))
}

// R1: each call ends, whatever stands on the pages.
func TestStrangePages(t *testing.T) {
	c := chance(8)
	for round := range 200 {
		_, a, x := fresh(t)
		for _, key := range mixed(&c, longest(1+c.below(100))) {
			x.Insert(entry(key, c.below(100)))
		}
		pages := x.Pages()
		for range 1 + c.below(4) {
			page := pages[c.below(len(pages))]
			if round%2 == 0 {
				other, _ := a.Read(pages[c.below(len(pages))])
				a.Write(page, 0, other)
			} else {
				a.Write(page, c.below(api.PageSize), string([]byte{byte(c.below(256))}))
			}
		}
		all(x)
		all(x)
		x.Drop()
		all(x)
		if !x.Check() || len(x.Entries()) < 40 {
			t.Fatalf("round %d: dropped: Check %t, %d entries", round, x.Check(), len(x.Entries()))
		}
	}
}

// R1: pages of any bytes at all.
func TestStrangeBytes(t *testing.T) {
	c := chance(9)
	for round := range 300 {
		_, a, x := fresh(t)
		var pages []int
		for range 8 {
			page, _ := a.Alloc()
			b := make([]byte, api.PageSize)
			for i := range b {
				b[i] = byte(c.below([]int{2, 10, 256}[round%3]))
			}
			a.Write(page, 0, string(b))
			pages = append(pages, page)
		}
		a.SetRoot(2, pages[c.below(len(pages))])
		all(x)
		if l := x.Pages(); !slices.IsSorted(l) || len(slices.Compact(slices.Clone(l))) != len(l) {
			t.Error(l)
		}
		all(x)
		x.Drop()
		if l := x.Pages(); len(l) != 0 {
			t.Error(l)
		}
	}
}

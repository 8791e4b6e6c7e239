package heap_test

import (
	"slices"
	"testing"

	"vestibule/api"
	"vestibule/disk"
	"vestibule/heap"
	"vestibule/space"
	"vestibule/tree"
)

// all does each call of a heap.
func all(x *heap.Heap, c *chance) {
	for _, tid := range append(x.Tids(), c.below(2000), c.below(300000)) {
		if c.below(4) == 0 {
			x.Get(tid)
			x.Kill(tid)
			x.Free(tid)
		}
	}
	x.Insert(c.bytes(1 + c.below(400)))
	x.Insert("r")
	x.Dead()
	x.Pages()
}

// R1: each call ends, whatever stands on the pages, and at the root.
func TestStrangePages(t *testing.T) {
	c := chance(8)
	for round := range 400 {
		_, a, x := fresh(t)
		count := 1 + c.below(12)
		for range count {
			a.Alloc()
		}
		for page := 1; page <= count; page++ {
			switch c.below(4) {
			case 0: // noughts
			case 1:
				a.Write(page, 0, c.bytes(512))
			case 2: // as a chart of few pages
				a.Write(page, 0, string([]byte{0, byte(c.below(14)), 0, byte(c.below(14)), 0, byte(c.below(14)), 255, byte(c.below(256))})+c.bytes(c.below(12)))
			case 3: // as a sheet
				a.Write(page, 0, string([]byte{byte(c.below(70))})+c.bytes(c.below(200)))
			}
		}
		a.SetRoot(0, []int{1 + c.below(count), 1 + c.below(count), count + 1, 5000, 1<<31 - 1}[round%5])
		for range 10 {
			all(x, &c)
		}
	}
}

// R1: each call ends also where a bit of a heap's pages is another.
func TestEachBit(t *testing.T) {
	c := chance(9)
	_, a, x := fresh(t)
	inserts(t, x, "a", "b", c.bytes(300), c.bytes(400))
	kill(t, x, insert(t, x, "d"))
	for _, page := range x.Pages() {
		was, _ := a.Read(page)
		for i := range 8 * len(was) {
			a.Write(page, i/8, string([]byte{was[i/8] ^ 1<<(i%8)}))
			for _, tid := range x.Tids() {
				x.Get(tid)
			}
			x.Dead()
			x.Pages()
			a.Write(page, 0, was)
		}
	}
}

// R1: a heap and a tree at one root, of which nothing is promised: each call of both ends.
func TestTreeAtTheSameRoot(t *testing.T) {
	c := chance(10)
	for round := range 40 {
		_, a, x := fresh(t)
		tr, _ := tree.New(a, 0)
		for range 60 {
			if c.below(2) == round%2 {
				tr.Put(c.bytes(1+c.below(96)), c.bytes(c.below(33)))
				tr.Del(c.bytes(1))
				tr.Check()
			} else {
				all(x, &c)
			}
		}
	}
}

// R1: each call ends also where pages of a heap were freed, or emptied, by others.
func TestPagesThatAreGone(t *testing.T) {
	s := open(t, disk.New())
	for _, gone := range []func(a *space.Action, page int){
		func(a *space.Action, page int) { a.Free(page) },
		func(a *space.Action, page int) { a.Write(page, 0, string(make([]byte, 512))) },
	} {
		c := chance(11)
		a := begin(t, s)
		x := heapAt(t, a, 0)
		inserts(t, x, c.bytes(400), c.bytes(400), c.bytes(400), c.bytes(20))
		for _, page := range slices.Backward(x.Pages()) {
			gone(a, page)
			all(x, &c)
		}
		if tid, e := x.Insert("r"); e != api.OK && e != api.ErrFull {
			t.Errorf("Insert: %d %d", tid, e)
		}
		abort(t, a)
	}
}

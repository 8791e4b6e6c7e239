package sorter_test

import (
	"math"
	"slices"
	"strconv"
	"strings"
	"testing"
	"unsafe"

	"vestibule/api"
	"vestibule/sorter"
)

// So1: which room may be.
func TestNew(t *testing.T) {
	for _, room := range []int{0, -1, 1<<16 + 1, 1 << 17, 1<<32 + 1, math.MaxInt, math.MinInt} {
		if s, e := sorter.New(room); s != nil || e != api.ErrArg {
			t.Errorf("New(%d): %v %d", room, s, e)
		}
	}
	for _, room := range []int{1, 2, 3, 1<<16 - 1, 1 << 16} {
		s := with(t, room)
		runs(t, "new", s, 0)
		tells(t, "new", s, nil)
		runs(t, "new, told", s, 0)
	}
}

// So1: runs are full ones, and one that is not, as each text comes, and behind Sorted too.
func TestRuns(t *testing.T) {
	for _, c := range []struct{ room, taken, want int }{
		{1, 1, 1}, {1, 2, 2}, {1, 7, 7}, {2, 1, 1}, {2, 2, 1}, {2, 3, 2}, {2, 4, 2}, {2, 5, 3}, {3, 2, 1}, {3, 3, 1}, {3, 4, 2}, {3, 9, 3},
		{3, 10, 4}, {1 << 16, 1, 1}, {1 << 16, 1 << 16, 1}, {1 << 16, 1<<16 + 1, 2}, {1<<16 - 1, 1 << 16, 2}, {1 << 16, 1 << 17, 2},
		{1, 1 << 17, 1 << 17},
	} {
		what := "room " + strconv.Itoa(c.room) + ", " + strconv.Itoa(c.taken) + " taken"
		s := with(t, c.room)
		for range c.taken {
			add(t, s, "x")
		}
		runs(t, what, s, c.want)
		runs(t, what+", again", s, c.want)
		tells(t, what, s, slices.Repeat([]string{"x"}, c.taken))
		runs(t, what+", told", s, c.want)
	}
	s := with(t, 3)
	for i, want := range []int{1, 1, 1, 2, 2, 2, 3, 3} {
		add(t, s, "x")
		runs(t, "behind "+strconv.Itoa(i+1), s, want)
	}
}

// So1: all texts, by their bytes, whatever the order in which they came.
func TestSorted(t *testing.T) {
	c := chance(1)
	want := odd()
	if !slices.IsSorted(want) {
		t.Fatal("odd texts do not rise")
	}
	back := slices.Clone(want)
	slices.Reverse(back)
	for _, room := range []int{1, 2, 3, 5, len(want) - 1, len(want), len(want) + 1, 1 << 16} {
		what := "room " + strconv.Itoa(room)
		tells(t, what+", as they rise", with(t, room, want...), want)
		tells(t, what+", falling", with(t, room, back...), want)
		for range 5 {
			tells(t, what+", mixed", with(t, room, c.mixed(want)...), want)
		}
	}
}

// So1: texts that are taken often are told as often.
func TestSortedTwice(t *testing.T) {
	for _, room := range []int{1, 2, 3, 4, 5, 6, 7, 1000} {
		s := with(t, room, "b", "a", "b", "", "b", "a", "")
		tells(t, "room "+strconv.Itoa(room), s, []string{"", "", "a", "a", "b", "b", "b"})
	}
}

// So1: behind Sorted nothing is taken nor told; Runs goes on.
func TestOver(t *testing.T) {
	for _, taken := range [][]string{nil, {"b"}, {"b", "a"}, {"b", "a", "c"}} {
		s := with(t, 2, taken...)
		before := s.Runs()
		tells(t, "first", s, slices.Sorted(slices.Values(taken)))
		for range 2 {
			if l, e := s.Sorted(); len(l) != 0 || e != api.ErrOver {
				t.Errorf("Sorted again: %q %d", l, e)
			}
			for _, x := range []string{"", "z"} {
				if e := s.Add(x); e != api.ErrOver {
					t.Errorf("Add(%q) behind Sorted: %d", x, e)
				}
			}
			runs(t, "over", s, before)
		}
	}
}

// So3: what is told does not hang on how many are in hand, nor on when Runs is asked.
func TestEachRoom(t *testing.T) {
	c := chance(2)
	for _, n := range []int{0, 1, 2, 3, 10, 64, 300} {
		l := c.texts(n)
		want := slices.Sorted(slices.Values(l))
		for room := 1; room <= n+2; room++ {
			s := with(t, room)
			for i, x := range l {
				add(t, s, x)
				runs(t, "on the way", s, i/room+1)
			}
			tells(t, strconv.Itoa(n)+" texts, room "+strconv.Itoa(room), s, want)
		}
	}
}

// So1, So3: many texts, more than the greatest room.
func TestMany(t *testing.T) {
	c := chance(3)
	l := make([]string, 150000)
	for i := range l {
		l[i] = strconv.Itoa(c.below(1 << 20))
	}
	want := slices.Sorted(slices.Values(l))
	for _, room := range []int{1, 1000, 1<<16 - 1, 1 << 16} {
		s := with(t, room, l...)
		runs(t, "many", s, (len(l)+room-1)/room)
		tells(t, "many, room "+strconv.Itoa(room), s, want)
	}
}

// R4: sorters know nothing of one another.
func TestTwoSorters(t *testing.T) {
	a, b := with(t, 2), with(t, 2)
	for i := range 7 {
		add(t, a, "a"+strconv.Itoa(6-i))
		add(t, b, "b"+strconv.Itoa(i))
	}
	tells(t, "one", a, []string{"a0", "a1", "a2", "a3", "a4", "a5", "a6"})
	add(t, b, "b")
	runs(t, "the other", b, 4)
	tells(t, "the other", b, []string{"b", "b0", "b1", "b2", "b3", "b4", "b5", "b6"})
}

// R1: of a sorter that New did not give.
func TestNoSorter(t *testing.T) {
	s := with(t, 2, "b", "a", "c")
	copied := *s
	over := with(t, 2, "a")
	tells(t, "ahead", over, []string{"a"})
	copiedOver := *over
	for i, x := range []*sorter.Sorter{nil, {}, &copied, &copiedOver} {
		for _, text := range []string{"", "d"} {
			if e := x.Add(text); e != api.ErrArg {
				t.Errorf("%d: Add(%q): %d", i, text, e)
			}
		}
		if l, e := x.Sorted(); len(l) != 0 || e != api.ErrArg {
			t.Errorf("%d: Sorted: %q %d", i, l, e)
		}
		runs(t, "no sorter "+strconv.Itoa(i), x, 0)
	}
	tells(t, "the sorter that was copied", s, []string{"a", "b", "c"})
}

// R3: a text that is handed in is not kept.
func TestAddKeepsNothing(t *testing.T) {
	for _, room := range []int{1, 2, 5} {
		b := []byte("abc")
		s := with(t, room)
		add(t, s, unsafe.String(&b[0], len(b)))
		copy(b, "xyz")
		add(t, s, unsafe.String(&b[1], 1))
		copy(b, "000")
		tells(t, "room "+strconv.Itoa(room), s, []string{"abc", "y"})
	}
}

// R3: what is told is its reader's.
func TestSortedIsNew(t *testing.T) {
	s := with(t, 2, "c", "a", "b")
	l, _ := s.Sorted()
	o := with(t, 2, "f", "d", "e")
	clear(l[:cap(l)])
	tells(t, "another one", o, []string{"d", "e", "f"})
	if l, e := s.Sorted(); len(l) != 0 || e != api.ErrOver {
		t.Errorf("Sorted again: %q %d", l, e)
	}
}

// The chapter's example.
func TestExample(t *testing.T) {
	s := with(t, 2, "c", "a", "b")
	runs(t, "example", s, 2)
	tells(t, "example", s, []string{"a", "b", "c"})
	merges(t, "example", [][]string{{"a", "c"}, {"b"}}, []string{"a", "b", "c"})
	if l, e := sorter.Merge([][]string{{"c", "a"}}); len(l) != 0 || e != api.ErrArg {
		t.Errorf("Merge(c a): %q %d", l, e)
	}
}

// So1: a long text is taken as any other one.
func TestLong(t *testing.T) {
	x := strings.Repeat("x", 1<<22)
	tells(t, "long", with(t, 1, x+"b", x+"a", x, "y"), []string{x, x + "a", x + "b", "y"})
}

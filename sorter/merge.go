package sorter

import (
	"container/heap"
	"slices"
	"strings"

	"vestibule/api"
)

// Merge is lists that rise, put together.
func Merge(runs [][]string) ([]string, api.Errno) {
	for _, r := range runs {
		if !slices.IsSorted(r) {
			return nil, api.ErrArg
		}
	}
	l := merged(runs)
	for i, x := range l {
		l[i] = strings.Clone(x) // an answer shares nothing with what is handed in
	}
	return l, api.OK
}

// merged are the texts of runs that rise, put together in a new list.
func merged(runs [][]string) []string {
	var h heads
	n := 0
	for _, r := range runs {
		n += len(r)
		if len(r) > 0 {
			h = append(h, &head{r[0], r[1:]})
		}
	}
	heap.Init(&h)
	l := make([]string, 0, n)
	for len(h) > 0 {
		lowest := heap.Pop(&h).(*head)
		l = append(l, lowest.text)
		if lowest.moveOn() {
			heap.Push(&h, lowest)
		}
	}
	return l
}

// head is the first text of a run that is not told yet, and those behind it.
type head struct {
	text string
	rest []string
}

// moveOn lets the next text of its run be the head; false, if there is none.
func (h *head) moveOn() bool {
	if len(h.rest) == 0 {
		return false
	}
	h.text, h.rest = h.rest[0], h.rest[1:]
	return true
}

// heads are those of runs, as the library's heap wants them.
type heads []*head

// Len is how many there are.
func (h heads) Len() int { return len(h) }

// Less tells whether one is told ahead of another one.
func (h heads) Less(i, j int) bool { return h[i].text < h[j].text }

// Swap lets two change their places.
func (h heads) Swap(i, j int) { h[i], h[j] = h[j], h[i] }

// Push puts one at the end.
func (h *heads) Push(x any) { *h = append(*h, x.(*head)) }

// Pop takes the one at the end.
func (h *heads) Pop() any {
	last := len(*h) - 1
	x := (*h)[last]
	*h = (*h)[:last]
	return x
}

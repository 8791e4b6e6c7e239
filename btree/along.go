package btree

import (
	"vestibule/api"
	"vestibule/datum"
	"vestibule/tree"
)

// stretch is what is still to be gone along of a tree: its keys from one on, and below another one. With each key that
// is taken it gets shorter, so that going along ends, whatever stands on the pages.
type stretch struct {
	from, above string
	tree        *tree.Tree
}

// stretch is where the entries stand whose keys are not below one, nor above another one; nil stands for no end.
func (x *Btree) stretch(from, to *api.Datum) stretch {
	s := stretch{above: aboveKeys, tree: x.tree}
	if from != nil {
		s.from = bytesOf(*from)
	}
	if to != nil {
		s.above = bytesOf(*to) + aboveTids
	}
	return s
}

// has tells whether a key stands in the stretch.
func (s *stretch) has(key string) bool { return s.from <= key && key < s.above }

// first takes the first key; false, if there is none.
func (s *stretch) first() (api.Item, bool) {
	item, ok := s.tree.From(s.from)
	if !ok || !s.has(item.Key) {
		return api.Item{}, false
	}
	s.from = item.Key + "\x00" // no text stands between the two
	return item, true
}

// last takes the last key; false, if there is none.
func (s *stretch) last() (api.Item, bool) {
	item, ok := s.tree.Prev(s.above)
	if !ok || !s.has(item.Key) {
		return api.Item{}, false
	}
	s.above = item.Key
	return item, true
}

// along hands each entry whose key is not below one, nor above another one, to do, in order, or back.
func (x *Btree) along(from, to *api.Datum, back bool, do func(e api.Entry)) {
	s := x.stretch(from, to)
	take := s.first
	if back {
		take = s.last
	}
	for item, ok := take(); ok; item, ok = take() {
		if e, is := entryOf(item); is {
			do(e)
		}
	}
}

// tids are the addresses of entries that were gone along.
type tids []int

func (l *tids) add(e api.Entry) { *l = append(*l, e.Tid) }

// entries are those that were gone along.
type entries []api.Entry

func (l *entries) add(e api.Entry) { *l = append(*l, e) }

// counts are the keys of entries that were gone along in order, and how many entries each had.
type counts struct {
	keys    []api.Datum
	numbers []int
}

func (c *counts) add(e api.Entry) {
	last := len(c.keys) - 1
	if last >= 0 && same(c.keys[last], e.Key) {
		c.numbers[last]++
		return
	}
	c.keys = append(c.keys, e.Key)
	c.numbers = append(c.numbers, 1)
}

// same tells whether two keys that may be are the same.
func same(a, b api.Datum) bool {
	order, _ := datum.Compare(a, b)
	return order == 0
}

package method

import (
	"cmp"
	"iter"
	"slices"
	"strings"
)

// held is an entry in hand: its key's bytes, which stand as the keys do, lists behind all others, and its address.
type held struct {
	key string
	tid int
}

// compare is below, at or above 0: a stands ahead of b, where b does, or behind it.
func compare(a, b held) int {
	return cmp.Or(strings.Compare(a.key, b.key), cmp.Compare(a.tid, b.tid))
}

// maxShelf is how many entries stand on a shelf at most.
const maxShelf = 512

// rack is entries in order, each once, on shelves none of which is empty:
// to put one among many, those of one shelf alone are moved.
type rack struct {
	shelves [][]held
}

// seek is the shelf and the place of an entry, or those at which it is to be put, and whether it is there.
// Where there is no shelf yet, it is the first one's place.
func (r *rack) seek(h held) (shelf, at int, there bool) {
	above, there := slices.BinarySearchFunc(r.shelves, h, func(s []held, h held) int { return compare(s[0], h) })
	if there {
		return above, 0, true
	}
	if above == 0 {
		return 0, 0, false
	}
	shelf = above - 1
	at, there = slices.BinarySearchFunc(r.shelves[shelf], h, compare)
	return shelf, at, there
}

// put tells whether the entry was not there: now it is.
func (r *rack) put(h held) bool {
	shelf, at, there := r.seek(h)
	if there {
		return false
	}
	if len(r.shelves) == 0 {
		r.shelves = append(r.shelves, nil)
	}
	r.shelves[shelf] = slices.Insert(r.shelves[shelf], at, h)
	if len(r.shelves[shelf]) > maxShelf {
		r.split(shelf)
	}
	return true
}

// split moves the upper half of a shelf to a new one behind it.
func (r *rack) split(shelf int) {
	s := r.shelves[shelf]
	half := len(s) / 2
	r.shelves = slices.Insert(r.shelves, shelf+1, slices.Clone(s[half:]))
	clear(s[half:]) // else keys that are taken later would be kept here
	r.shelves[shelf] = s[:half]
}

// take tells whether the entry was there: now it is not.
func (r *rack) take(h held) bool {
	shelf, at, there := r.seek(h)
	if !there {
		return false
	}
	r.shelves[shelf] = slices.Delete(r.shelves[shelf], at, at+1)
	if len(r.shelves[shelf]) == 0 {
		r.shelves = slices.Delete(r.shelves, shelf, shelf+1)
	}
	return true
}

// from goes along the entries that do not stand ahead of one, which itself need not be there.
func (r *rack) from(h held) iter.Seq[held] {
	return func(yield func(held) bool) {
		shelf, at, _ := r.seek(h)
		for ; shelf < len(r.shelves); shelf++ {
			for _, x := range r.shelves[shelf][at:] {
				if !yield(x) {
					return
				}
			}
			at = 0
		}
	}
}

package inverted

import (
	"cmp"
	"slices"
	"strings"

	"vestibule/api"
	"vestibule/datum"
)

// list is what postings tell of a list.
type list struct {
	items    [api.MaxItems]string // by their places, the items' bytes
	known    places               // at which of them an item stands
	length   int                  // how many items the list has
	postings int                  // how many told of it
	torn     bool                 // they do not go together
}

// add lets a list have what one more posting tells of it.
func (l *list) add(p posting) {
	l.torn = l.torn || l.known&p.places != 0 || l.postings > 0 && l.length != p.length
	l.length = p.length
	l.known |= p.places
	l.postings++
	for at := range l.items {
		if p.places.has(at) {
			l.items[at] = p.of
		}
	}
}

// whole tells whether an item stands at each place, and one only.
func (l *list) whole() bool {
	return !l.torn && int(l.known) == 1<<l.length-1
}

// key is a list that is whole, in memory of its own.
func (l *list) key() api.Datum {
	key := api.Datum{Kind: api.KindList}
	for _, of := range l.items[:l.length] {
		d, _, _ := datum.Of(of)
		key.L = append(key.L, d)
	}
	return key
}

// lists are all lists, put together of all postings.
func (x *Inverted) lists() map[spot]*list {
	m := map[spot]*list{}
	for p := range x.postings(belowItems, abovePosted) {
		if m[p.at] == nil {
			m[p.at] = &list{}
		}
		m[p.at].add(p)
	}
	return m
}

// ordered is an entry, and its key's bytes, by which it stands.
type ordered struct {
	bytes string
	entry api.Entry
}

// compare is below, at or above 0: a stands ahead of b, where b does, or behind it.
func compare(a, b ordered) int {
	return cmp.Or(strings.Compare(a.bytes, b.bytes), cmp.Compare(a.entry.Tid, b.entry.Tid))
}

// inOrder are the entries of all lists that are whole, in order.
func inOrder(m map[spot]*list) []ordered {
	var l []ordered
	for at, parts := range m {
		if parts.whole() {
			key := parts.key()
			l = append(l, ordered{bytesOf(key), api.Entry{Key: key, Tid: at.tid()}})
		}
	}
	slices.SortFunc(l, compare)
	return l
}

// stands tells whether the tree holds the postings of whole lists, none of them twice at one address, and which numbers
// these have, and nothing else.
func (x *Inverted) stands() bool {
	m := x.lists()
	held := 0
	taken := map[int]*numbers{}
	for at, parts := range m {
		tid := at.tid()
		if taken[tid] == nil {
			taken[tid] = &numbers{}
			held++
		}
		taken[tid].turn(at.number())
		held += parts.postings
	}
	for tid, l := range taken {
		if value, _ := x.tree.Get(numbersKey(tid)); value != string(l[:]) {
			return false
		}
	}
	same := func(a, b ordered) bool { return compare(a, b) == 0 }
	return held == x.tree.Len() && len(slices.CompactFunc(inOrder(m), same)) == len(m)
}

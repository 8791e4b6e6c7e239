package inverted

import (
	"iter"

	"vestibule/api"
)

// postings goes along those that stand from a text on, and below another one. Each key is asked to stand above the one
// before it, so that going along ends, whatever stands on the pages.
func (x *Inverted) postings(from, above string) iter.Seq[posting] {
	return func(yield func(posting) bool) {
		next := from
		item, ok := x.tree.From(next)
		for ok && next <= item.Key && item.Key < above {
			if p, is := postingOf(item); is && !yield(p) {
				return
			}
			next = item.Key + "\x00" // no text stands between the two
			item, ok = x.tree.From(next)
		}
	}
}

// first is the first posting of an item at a spot that is not below one, but below another one; false, if there is none.
func (x *Inverted) first(of string, from, above spot) (posting, bool) {
	for p := range x.postings(of+from.bytes(), of+aboveSpots) {
		return p, p.at < above
	}
	return posting{}, false
}

// spotsOf are the lists that are the same as a key, item for item, from a spot on, and below another one, rising. It leaps
// from item to item, each time to the first spot at which the next one may stand, so that it need not go along all lists
// that have an item which many have. A list that has all postings of the key has no other ones, as they fill its places.
func (x *Inverted) spotsOf(key api.Datum, from, above spot) []spot {
	l := postingsOf(key, from)
	var spots []spot
	agreed := 0 // so many items, one behind the other, have their postings at from
	for i := 0; ; i = (i + 1) % len(l) {
		p, ok := x.first(l[i].of, from, above)
		switch {
		case !ok:
			return spots
		case p.value() != l[i].value():
			from, agreed = p.at+1, 0
		case p.at == from:
			agreed++
		default:
			from, agreed = p.at, 1
		}
		if agreed == len(l) {
			spots = append(spots, from)
			from, agreed = from+1, 0
		}
	}
}

// spotOfEntry is the list that an entry is; false, if there is none such.
func (x *Inverted) spotOfEntry(e api.Entry) (spot, bool) {
	l := x.spotsOf(e.Key, spotAt(e.Tid, 0), spotAt(e.Tid+1, 0))
	if len(l) == 0 {
		return 0, false
	}
	return l[0], true
}

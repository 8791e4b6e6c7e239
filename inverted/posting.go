package inverted

import (
	"maps"
	"slices"

	"vestibule/api"
	"vestibule/datum"
)

// The tree holds postings. Of each entry, and of each item that its list has, one tells at which places of the list the
// item stands: its key is the item's bytes, the entry's address, and a number by which the lists of one address are told
// apart; its value is how many items the list has, and the places. No item's bytes are the beginning of another one's,
// so that postings stand as their items do, and those of one item as their addresses do. A list without items has one
// posting, of its own bytes.
//
// So an entry takes no more than 640 bytes of the tree, with its address's numbers: little enough for the pages that it
// may stand on. The list itself is not held besides, as its texts would take as many bytes again.

const (
	belowItems  = "\x01" // stands below all postings
	aboveItems  = "\x03" // stands above those of items, and below those of lists without items
	abovePosted = "\x04" // stands above all postings
	valueWidth  = 2
)

// places are bits, the lowest one of which is a list's first place. A list has no more of them.
type places byte

// has tells whether a place is one of them.
func (l places) has(at int) bool { return l>>at&1 == 1 }

// posting tells at which places an item stands in a list.
type posting struct {
	of     string // the item's bytes; of a list without items the list's
	at     spot   // which list it is
	length int    // how many items the list has
	places places
}

// bytesOf are the bytes of a datum that may be.
func bytesOf(d api.Datum) string {
	b, _ := datum.Bytes(d)
	return b
}

// placesOf are the items of a list, each once, by their bytes, and at which places each of them stands.
func placesOf(key api.Datum) map[string]places {
	m := map[string]places{}
	for i, d := range key.L {
		m[bytesOf(d)] |= 1 << i
	}
	if len(m) == 0 {
		m[bytesOf(key)] = 0
	}
	return m
}

// postingsOf are the postings of a list, in order.
func postingsOf(key api.Datum, at spot) []posting {
	m := placesOf(key)
	var l []posting
	for _, of := range slices.Sorted(maps.Keys(m)) {
		l = append(l, posting{of: of, at: at, length: len(key.L), places: m[of]})
	}
	return l
}

// held is the tree's key of a posting.
func (p *posting) held() string { return p.of + p.at.bytes() }

// value is what that key holds.
func (p *posting) value() string { return string([]byte{byte(p.length), byte(p.places)}) }

// postingOf is the posting that an item of the tree is; false, if it is none.
func postingOf(item api.Item) (posting, bool) {
	d, n, err := datum.Of(item.Key)
	if err != api.OK || len(item.Key) != n+spotWidth || len(item.Value) != valueWidth {
		return posting{}, false
	}
	p := posting{
		of:     item.Key[:n],
		at:     spotOf(item.Key[n:]),
		length: int(item.Value[0]),
		places: places(item.Value[1]),
	}
	return p, p.at.number() < maxLists && p.stands(d)
}

// stands tells whether what it is of may have postings, and stands at some place, if it is an item, and else at none.
// Whether these are places of the list its other postings tell.
func (p *posting) stands(d api.Datum) bool {
	return len(d.L) == 0 && (p.places == 0) == (d.Kind == api.KindList)
}

// item is what the posting is of, in memory of its own.
func (p *posting) item() api.Datum {
	d, _, _ := datum.Of(p.of)
	return d
}

// put lets the tree hold a list; where no page is left for all of it, nothing of it.
func (x *Inverted) put(key api.Datum, at spot) api.Errno {
	l := postingsOf(key, at)
	for i, p := range l {
		if _, err := x.tree.Put(p.held(), p.value()); err != api.OK {
			x.remove(l[:i])
			return err
		}
	}
	err := x.turn(at)
	if err != api.OK {
		x.remove(l)
	}
	return err
}

// take lets the tree hold a list no longer.
func (x *Inverted) take(key api.Datum, at spot) api.Errno {
	x.remove(postingsOf(key, at))
	return x.turn(at)
}

// remove takes postings out of the tree.
func (x *Inverted) remove(l []posting) {
	for _, p := range l {
		x.tree.Del(p.held())
	}
}

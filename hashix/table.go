package hashix

import (
	"math/bits"

	"vestibule/api"
	"vestibule/datum"
)

// A table's page, whose number is the root's, holds how many buckets there are, in one byte, how many entries, in three,
// and the number of each bucket's first page, in two; 0 stands for none. So all buckets are told of by one page.
const (
	maxBuckets = 250
	dense      = 16 // more entries than so many a bucket let there be one more
	countAt    = 1
	firstsAt   = 4
)

// table is what an index knows of its buckets.
type table struct {
	page    int // 0, as long as it stands on none
	buckets int
	count   int // of the entries
	firsts  [maxBuckets]int
}

// table is that of the index.
func (x *Hash) table() *table {
	page, _ := x.action.Root(x.root)
	b, err := x.action.Read(page)
	if err != api.OK {
		return &table{buckets: 1}
	}
	t := &table{page: page, buckets: min(max(int(b[0]), 1), maxBuckets)}
	t.count = int(b[countAt])<<16 | int(b[countAt+1])<<8 | int(b[countAt+2])
	for bucket := range t.buckets {
		t.firsts[bucket] = linkIn(b, firstsAt+linkWidth*bucket)
	}
	return t
}

// bytes are those of its page.
func (t *table) bytes() string {
	b := make([]byte, 0, api.PageSize)
	b = append(b, byte(t.buckets), byte(t.count>>16), byte(t.count>>8), byte(t.count))
	for _, page := range t.firsts {
		b = append(b, byte(page>>8), byte(page))
	}
	return string(b[:api.PageSize])
}

// keep writes the table to its page.
func (x *Hash) keep(t *table) { x.action.Write(t.page, 0, t.bytes()) }

// whole is the greatest power of two that is not above how many buckets there are.
func (t *table) whole() int { return 1 << (bits.Len(uint(t.buckets)) - 1) }

// nextSplit is the next bucket that is split.
func (t *table) nextSplit() int { return t.buckets - t.whole() }

// isDense tells whether there is to be one more bucket.
func (t *table) isDense() bool { return t.count > dense*t.buckets && t.buckets < maxBuckets }

// bucketOf is which bucket a key that may be is in.
func (t *table) bucketOf(key api.Datum) int {
	h, _ := datum.Hash(key)
	if bucket := h % (2 * t.whole()); bucket < t.buckets {
		return bucket
	}
	return h % t.whole()
}

// bucketOfHeld is which bucket an entry is in; false, if it is none.
func (t *table) bucketOfHeld(held string) (int, bool) {
	e, ok := entryOf(held)
	if !ok {
		return 0, false
	}
	return t.bucketOf(e.Key), true
}

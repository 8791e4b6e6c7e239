package bitmapix

import (
	"vestibule/api"
	"vestibule/datum"
)

// The tree's keys are the bytes of a key, and a number of two bytes, the highest one first: of which addresses the row
// of bits tells that is their value. No key's bytes are the beginning of another one's, so that cells stand as their
// keys do, and those of one key as their addresses do. What has no bit set is not held.

// numberWidth is how many bytes a number takes.
const numberWidth = 2

// aboveNumbers stands above all numbers.
const aboveNumbers = "\xff\xff\xff"

// aboveKeys stands above all cells: bytes of integers and of texts begin with less, those of lists do not.
const aboveKeys = "\x03"

// cell are some addresses of a key.
type cell struct {
	of     string // the key's bytes
	number int    // the addresses begin at that many rows
	bits   row
}

// cellAt is the cell in which an entry that may be stands, or would.
func (x *Bitmap) cellAt(e api.Entry) cell {
	c := cell{of: bytesOf(e.Key), number: e.Tid / width}
	value, _ := x.tree.Get(c.held())
	copy(c.bits[:], value)
	return c
}

// bytesOf are the bytes of a key that may be.
func bytesOf(key api.Datum) string {
	b, _ := datum.Bytes(key)
	return b
}

// held is the tree's key of a cell.
func (c *cell) held() string {
	return c.of + string([]byte{byte(c.number >> 8), byte(c.number)})
}

// cellOf is the cell that an item below aboveKeys is; false, if it is none.
func cellOf(item api.Item) (cell, bool) {
	_, n, err := datum.Of(item.Key)
	if err != api.OK || len(item.Key) != n+numberWidth || len(item.Value) != api.MaxValue {
		return cell{}, false
	}
	c := cell{of: item.Key[:n], number: int(item.Key[n])<<8 | int(item.Key[n+1]), bits: row([]byte(item.Value))}
	return c, !c.bits.empty()
}

// key is the key of a cell, in memory of its own.
func (c *cell) key() api.Datum {
	key, _, _ := datum.Of(c.of)
	return key
}

// has tells whether an address that a cell tells of is held.
func (c *cell) has(tid int) bool { return c.bits.has(tid % width) }

// flip holds an address that is not held, and gives up one that is.
func (c *cell) flip(tid int) { c.bits.flip(tid % width) }

// tids are the addresses that are held, rising.
func (c *cell) tids() []int {
	var l []int
	for n := range width {
		if c.bits.has(n) {
			l = append(l, c.number*width+n)
		}
	}
	return l
}

// hold lets the tree hold a cell; an empty one, no longer.
func (x *Bitmap) hold(c cell) api.Errno {
	if c.bits.empty() {
		return x.tree.Del(c.held())
	}
	_, err := x.tree.Put(c.held(), string(c.bits[:]))
	return err
}

// cells are all cells, in order.
func (x *Bitmap) cells() []cell { return x.between("", aboveKeys) }

// cellsOf are the cells of a key that may be, in order.
func (x *Bitmap) cellsOf(key api.Datum) []cell {
	b := bytesOf(key)
	return x.between(b, b+aboveNumbers)
}

// between are the cells that stand from a text on, and below another one. Each item is asked to stand above the one
// before it, so that going along ends, whatever stands on the pages.
func (x *Bitmap) between(from, above string) []cell {
	var l []cell
	item, ok := x.tree.From(from)
	for ok && from <= item.Key && item.Key < above {
		if c, is := cellOf(item); is {
			l = append(l, c)
		}
		from = item.Key + "\x00" // no text stands between the two
		item, ok = x.tree.From(from)
	}
	return l
}

package tidset

import (
	"math/bits"

	"vestibule/api"
)

// places are some of the places of a page, a bit each: as many as there are Slots.
type places uint64

// everywhere is all places of a page.
const everywhere = ^places(0)

// placeOf is where on its page an address stands.
func placeOf(tid int) places { return 1 << (tid % api.Slots) }

// count is how many they are.
func (p places) count() int { return bits.OnesCount64(uint64(p)) }

// meet tells whether two have a place in common.
func (p places) meet(q places) bool { return p&q != 0 }

// tids is a list with the addresses behind it that they are on a page, rising.
func (p places) tids(l []int, page int) []int {
	for ; p != 0; p &= p - 1 { // the lowest bit goes
		l = append(l, page*api.Slots+bits.TrailingZeros64(uint64(p)))
	}
	return l
}

package bitmapix

import (
	"math/bits"

	"vestibule/api"
)

// row are bits in an array, as many as a value of the tree can be: of addresses that follow one another they tell which
// are held. The lowest bit of the first byte is the first address.
type row [api.MaxValue]byte

// width is how many bits a row has.
const width = 8 * api.MaxValue

// has tells whether a bit is set.
func (r *row) has(n int) bool { return r[n/8]>>(n%8)&1 == 1 }

// flip sets a bit that is not, and clears one that is.
func (r *row) flip(n int) { r[n/8] ^= 1 << (n % 8) }

// empty tells whether no bit is set.
func (r *row) empty() bool { return *r == row{} }

// count is how many bits are set.
func (r *row) count() int {
	n := 0
	for _, b := range r {
		n += bits.OnesCount8(b)
	}
	return n
}

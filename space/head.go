package space

import (
	"math/bits"

	"vestibule/api"
)

// wordBits is how many bits a word of a head has.
const wordBits = 64

// head is what a space keeps besides its pages' bytes.
type head struct {
	count int                             // how many pages there are, free ones too
	free  [api.MaxPages / wordBits]uint64 // a bit for each page: whether it is free
	roots [api.MaxRoots]int
}

// isRoot tells whether there is a root of a number.
func isRoot(k int) bool { return k >= 0 && k < api.MaxRoots }

// isFree tells whether a page from 0 to MaxPages - 1 is free.
func (h *head) isFree(page int) bool { return h.free[page/wordBits]>>(page%wordBits)&1 == 1 }

// has tells whether there is a page, and it is not free.
func (h *head) has(page int) bool { return page >= 1 && page <= h.count && !h.isFree(page) }

// turn lets a page that is free be none, and one that is not be one.
func (h *head) turn(page int) { h.free[page/wordBits] ^= 1 << (page % wordBits) }

// take is a page that was free, or is new, and is not free from now on; 0, if there is none.
func (h *head) take() int {
	for i, w := range h.free {
		if w != 0 {
			page := i*wordBits + bits.TrailingZeros64(w)
			h.turn(page)
			return page
		}
	}
	if h.count == api.MaxPages-1 {
		return 0
	}
	h.count++
	return h.count
}

// freePages are the pages that are free, rising.
func (h *head) freePages() []int {
	var l []int
	for page := 1; page <= h.count; page++ {
		if h.isFree(page) {
			l = append(l, page)
		}
	}
	return l
}

// words is how many words tell of all pages which are free.
func (h *head) words() int { return h.count/wordBits + 1 }

// bytes are the head as it stands on the disk: the count, the roots, and no more words than tell of pages.
func (h *head) bytes() []byte {
	b := number(nil, 2, uint64(h.count))
	for _, n := range h.roots {
		b = number(b, 4, uint64(n))
	}
	for _, w := range h.free[:h.words()] {
		b = number(b, 8, w)
	}
	return b
}

// headOf is the head with which bytes begin; false, if there is none.
func headOf(s string) (head, bool) {
	r := rest{b: s}
	h := r.head()
	if r.short {
		return head{}, false
	}
	return h, true
}

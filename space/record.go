package space

import (
	"strings"

	"vestibule/api"
)

// A record of the log tells what one action did: the head as it left it, then patches up to the record's end.

// patchHead is how many bytes a patch has in a record besides its own.
const patchHead = 6

// patch is bytes that an action leaves at a place of a page; none: the whole page is noughts.
type patch struct {
	page, at int
	s        string
}

// bytes are what is written at the patch's place.
func (p patch) bytes() string {
	if p.s == "" {
		return strings.Repeat("\x00", api.PageSize)
	}
	return p.s
}

// number adds a number to bytes, in so many of them, the highest first.
func number(b []byte, width int, n uint64) []byte {
	for i := width - 1; i >= 0; i-- {
		b = append(b, byte(n>>(8*i)))
	}
	return b
}

// recordOf is the record of an action.
func recordOf(h head, l []patch) string {
	b := h.bytes()
	for _, p := range l {
		for _, n := range [...]int{p.page, p.at, len(p.s)} {
			b = number(b, 2, uint64(n))
		}
		b = append(b, p.s...)
	}
	return string(b)
}

// actionOf is what a record tells; false, if it is no action's record.
func actionOf(record string) (head, []patch, bool) {
	r := rest{b: record}
	h := r.head()
	var l []patch
	for r.b != "" {
		l = append(l, r.patch())
	}
	if r.short {
		return head{}, nil, false
	}
	return h, l, true
}

// rest is what is left of bytes that are read from their beginning on.
type rest struct {
	b     string
	short bool // more was asked for than was left, or what stood there may not be
}

// take is the next bytes; nothing from then on, if there are not as many.
func (r *rest) take(n int) string {
	if n > len(r.b) {
		r.b, r.short = "", true
		return ""
	}
	s := r.b[:n]
	r.b = r.b[n:]
	return s
}

// number is the next bytes as a number.
func (r *rest) number(width int) uint64 {
	n := uint64(0)
	for _, c := range []byte(r.take(width)) {
		n = n<<8 | uint64(c)
	}
	return n
}

// head is the head that stands next.
func (r *rest) head() head {
	h := head{count: int(r.number(2))}
	if h.count >= api.MaxPages {
		r.short = true
		return head{}
	}
	for k := range h.roots {
		h.roots[k] = int(r.number(4))
	}
	for i := range h.free[:h.words()] {
		h.free[i] = r.number(8)
	}
	return h
}

// patch is the patch that stands next.
func (r *rest) patch() patch {
	p := patch{page: int(r.number(2)), at: int(r.number(2))}
	p.s = r.take(int(r.number(2)))
	return p
}

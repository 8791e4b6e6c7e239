package inverted

import "vestibule/api"

// spot is one of the lists of an address: the address, and the list's number in the lowest byte.
type spot int64

const (
	tidWidth   = 3
	spotWidth  = tidWidth + 1 // bytes of an address, and of a number
	spotsOfTid = 1 << 8
	aboveSpots = "\xff\xff\xff\xff\xff" // stands above the bytes of all spots
	endOfSpots = spot(api.MaxTid * spotsOfTid)
)

// spotAt is the list of an address that has a number.
func spotAt(tid, number int) spot { return spot(tid)*spotsOfTid + spot(number) }

// tid is the address.
func (s spot) tid() int { return int(s / spotsOfTid) }

// number is the list's number.
func (s spot) number() int { return int(s % spotsOfTid) }

// tidBytes are the bytes of an address, the highest one first.
func tidBytes(tid int) string {
	return string([]byte{byte(tid >> 16), byte(tid >> 8), byte(tid)})
}

// bytes are those of the address, and the number: they stand as spots do.
func (s spot) bytes() string {
	return tidBytes(s.tid()) + string([]byte{byte(s.number())})
}

// spotOf is the spot that has these bytes.
func spotOf(b string) spot {
	return spot(b[0])<<24 | spot(b[1])<<16 | spot(b[2])<<8 | spot(b[3])
}

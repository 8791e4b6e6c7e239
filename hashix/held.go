package hashix

import (
	"strings"

	"vestibule/api"
	"vestibule/datum"
)

// An entry is held as the bytes of its key, and its address, the highest byte first. No key's bytes are the beginning of
// another one's, so that entries stand as these texts do.

// tidWidth is how many bytes an address takes.
const tidWidth = 3

// heldOf is an entry that may be as it is held.
func heldOf(e api.Entry) string {
	return bytesOf(e.Key) + string([]byte{byte(e.Tid >> 16), byte(e.Tid >> 8), byte(e.Tid)})
}

// bytesOf are the bytes of a key that may be.
func bytesOf(key api.Datum) string {
	b, _ := datum.Bytes(key)
	return b
}

// isOf tells whether what is held is an entry of the key that has these bytes.
func isOf(held, b string) bool {
	return len(held) == len(b)+tidWidth && strings.HasPrefix(held, b)
}

// tidOf is the address of an entry.
func tidOf(held string) int {
	b := held[len(held)-tidWidth:]
	return int(b[0])<<16 | int(b[1])<<8 | int(b[2])
}

// entryOf is the entry that is held; false, if it is none.
func entryOf(held string) (api.Entry, bool) {
	key, n, err := datum.Of(held)
	if err != api.OK || len(held) != n+tidWidth || key.Kind == api.KindList {
		return api.Entry{}, false
	}
	return api.Entry{Key: key, Tid: tidOf(held)}, true
}

// refusesKey is what calls answer of a key that may not be.
func refusesKey(key api.Datum) api.Errno {
	if datum.Check(key) != api.OK {
		return api.ErrArg
	}
	if key.Kind == api.KindList {
		return api.ErrKind
	}
	return api.OK
}

// refusesEntry is what calls answer of an entry that may not be.
func refusesEntry(e api.Entry) api.Errno {
	if e.Tid < 0 || e.Tid >= api.MaxTid {
		return api.ErrArg
	}
	return refusesKey(e.Key)
}

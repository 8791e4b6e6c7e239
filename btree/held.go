package btree

import (
	"vestibule/api"
	"vestibule/datum"
)

// The tree holds an entry as a key without a value: the bytes of the entry's key, and its address, the highest byte
// first. No key's bytes are the beginning of another one's, so that entries stand as their keys do, and those of one
// key as their addresses do.

// tidWidth is how many bytes an address takes.
const tidWidth = 3

// The texts between which all entries of one key stand are that key's bytes, and those with aboveTids behind them.
const aboveTids = "\xff\xff\xff\xff"

// aboveKeys stands above all entries: bytes of integers and of texts begin with less, those of lists do not.
const aboveKeys = "\x03"

// heldOf is an entry that may be as the tree holds it.
func heldOf(e api.Entry) string {
	return bytesOf(e.Key) + string([]byte{byte(e.Tid >> 16), byte(e.Tid >> 8), byte(e.Tid)})
}

// bytesOf are the bytes of a key that may be.
func bytesOf(key api.Datum) string {
	b, _ := datum.Bytes(key)
	return b
}

// entryOf is the entry that an item below aboveKeys is; false, if it is none.
func entryOf(item api.Item) (api.Entry, bool) {
	key, n, err := datum.Of(item.Key)
	if err != api.OK || len(item.Key) != n+tidWidth || item.Value != "" {
		return api.Entry{}, false
	}
	b := item.Key[n:]
	return api.Entry{Key: key, Tid: int(b[0])<<16 | int(b[1])<<8 | int(b[2])}, true
}

// refusesKeys is what calls answer of keys that may not be. What is no datum is told ahead of what is a list, wherever
// each of them stands.
func refusesKeys(keys ...api.Datum) api.Errno {
	for _, key := range keys {
		if datum.Check(key) != api.OK {
			return api.ErrArg
		}
	}
	for _, key := range keys {
		if key.Kind == api.KindList {
			return api.ErrKind
		}
	}
	return api.OK
}

// refusesEntries is what calls answer of entries that may not be, likewise.
func refusesEntries(l ...api.Entry) api.Errno {
	keys := make([]api.Datum, 0, len(l))
	for _, e := range l {
		if e.Tid < 0 || e.Tid >= api.MaxTid {
			return api.ErrArg
		}
		keys = append(keys, e.Key)
	}
	return refusesKeys(keys...)
}

// refusesEnds is what calls answer of ends of a range that may not be, likewise; nil stands for none.
func refusesEnds(ends ...*api.Datum) api.Errno {
	var keys []api.Datum
	for _, end := range ends {
		if end != nil {
			keys = append(keys, *end)
		}
	}
	return refusesKeys(keys...)
}

// Package datum is layer 1: integers, texts and lists of them; their order, their bytes, their hashes, their texts.
package datum

import (
	"cmp"

	"vestibule/api"
)

// Check tells whether a datum may be.
func Check(d api.Datum) api.Errno {
	if d.Kind == api.KindList {
		return checkList(d)
	}
	return checkItem(d)
}

// checkList tells whether a datum of the kind list may be.
func checkList(d api.Datum) api.Errno {
	if d.N != 0 || d.S != "" || len(d.L) > api.MaxItems {
		return api.ErrDatum
	}
	for _, x := range d.L {
		if checkItem(x) != api.OK {
			return api.ErrDatum
		}
	}
	return api.OK
}

// checkItem tells whether a datum is an integer or a text that may be.
func checkItem(d api.Datum) api.Errno {
	switch {
	case len(d.L) > 0:
		return api.ErrDatum
	case d.Kind == api.KindInt && d.S == "":
		return api.OK
	case d.Kind == api.KindText && d.N == 0 && len(d.S) <= api.MaxText:
		return api.OK
	}
	return api.ErrDatum
}

// Compare is -1, 0 or 1: a is below, the same as, above b.
func Compare(a, b api.Datum) (int, api.Errno) {
	if Check(a) != api.OK || Check(b) != api.OK {
		return 0, api.ErrDatum
	}
	if a.Kind == api.KindList || b.Kind == api.KindList {
		return 0, api.ErrKind
	}
	// Fields that its kind does not name are zero, so that they tell nothing apart.
	return cmp.Or(compareKinds(a.Kind, b.Kind), cmp.Compare(a.N, b.N), cmp.Compare(a.S, b.S)), api.OK
}

// compareKinds sets integers below texts, whatever the numbers of the kinds are.
func compareKinds(a, b int) int {
	switch {
	case a == b:
		return 0
	case a == api.KindInt:
		return -1
	}
	return 1
}

package heap

import (
	"vestibule/api"
	"vestibule/datum"
)

// Page is the page of an address.
func Page(tid int) int { return max(tid, 0) / api.Slots }

// Bytes are a row's.
func Bytes(l []api.Datum) (string, api.Errno) {
	if len(l) > api.MaxCols {
		return "", api.ErrRow
	}
	b := []byte{byte(len(l))}
	for _, d := range l {
		s, e := datum.Bytes(d)
		if e != api.OK {
			return "", api.ErrRow
		}
		b = append(b, s...)
	}
	if len(b) > api.MaxRow {
		return "", api.ErrRow
	}
	return string(b), api.OK
}

// Of is the row of bytes.
func Of(s string) ([]api.Datum, api.Errno) {
	if s == "" || len(s) > api.MaxRow || s[0] > api.MaxCols {
		return nil, api.ErrRow
	}
	l := make([]api.Datum, s[0])
	at := 1
	for i := range l {
		d, n, e := datum.Of(s[at:])
		if e != api.OK {
			return nil, api.ErrRow
		}
		l[i] = d
		at += n
	}
	if at != len(s) {
		return nil, api.ErrRow
	}
	return l, api.OK
}

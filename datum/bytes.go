package datum

import (
	"strings"

	"vestibule/api"
)

// The bytes with which the bytes of a datum begin.
const (
	markInt  = 1
	markText = 2
	markList = 3
)

// Behind a nought of a text stands noughtGoesOn, behind the nought that ends one noughtEnds.
// That is the lesser one, so that a text stands ahead of all that it begins.
const (
	noughtEnds   = 0
	noughtGoesOn = 255
)

const intBytes = 8

// signBit turns the order of integers into that of numbers without sign.
const signBit = 1 << 63

// Bytes are a datum's: they stand, by their bytes, as the data do.
func Bytes(d api.Datum) (string, api.Errno) {
	if Check(d) != api.OK {
		return "", api.ErrDatum
	}
	var b strings.Builder
	eachByte(d, func(c byte) { b.WriteByte(c) })
	return b.String(), api.OK
}

// Hash is a number by which data are spread.
func Hash(d api.Datum) (int, api.Errno) {
	if Check(d) != api.OK {
		return 0, api.ErrDatum
	}
	h := uint32(2166136261)
	eachByte(d, func(c byte) { h = (h ^ uint32(c)) * 16777619 })
	return int(h), api.OK
}

// eachByte hands the bytes of a datum that may be to put, in order: what a byte becomes is put's.
func eachByte(d api.Datum, put func(c byte)) {
	switch d.Kind {
	case api.KindInt:
		put(markInt)
		eachOfInt(d.N, put)
	case api.KindText:
		put(markText)
		eachOfText(d.S, put)
	case api.KindList:
		put(markList)
		put(byte(len(d.L)))
		for _, x := range d.L {
			eachByte(x, put)
		}
	}
}

// eachOfInt hands on eight bytes, the highest first.
func eachOfInt(n int, put func(c byte)) {
	u := uint64(n) ^ signBit
	for i := intBytes - 1; i >= 0; i-- {
		put(byte(u >> (8 * i)))
	}
}

// eachOfText hands on a text's bytes, and those by which its end is told.
func eachOfText(s string, put func(c byte)) {
	for i := range len(s) {
		put(s[i])
		if s[i] == 0 {
			put(noughtGoesOn)
		}
	}
	put(0)
	put(noughtEnds)
}

// Of is the datum that bytes begin with, and how many bytes it has.
func Of(s string) (api.Datum, int, api.Errno) {
	d, n := itemOf(s)
	if len(s) > 0 && s[0] == markList {
		d, n = listOf(s)
	}
	if n == 0 {
		return api.Datum{}, 0, api.ErrDatum
	}
	return d, n, api.OK
}

// itemOf is the integer or the text that bytes begin with, and how many bytes it has: 0, if there is none.
func itemOf(s string) (api.Datum, int) {
	switch {
	case s == "":
		return api.Datum{}, 0
	case s[0] == markInt:
		return intOf(s)
	case s[0] == markText:
		return textOf(s)
	}
	return api.Datum{}, 0
}

func intOf(s string) (api.Datum, int) {
	if len(s) < 1+intBytes {
		return api.Datum{}, 0
	}
	u := uint64(0)
	for i := range intBytes {
		u = u<<8 | uint64(s[1+i])
	}
	return api.Datum{Kind: api.KindInt, N: int(u ^ signBit)}, 1 + intBytes
}

func textOf(s string) (api.Datum, int) {
	var b strings.Builder
	for i := 1; i < len(s) && b.Len() <= api.MaxText; i++ {
		if s[i] != 0 {
			b.WriteByte(s[i])
			continue
		}
		i++
		switch {
		case i == len(s):
			return api.Datum{}, 0
		case s[i] == noughtEnds:
			return api.Datum{Kind: api.KindText, S: b.String()}, i + 1
		case s[i] != noughtGoesOn:
			return api.Datum{}, 0
		}
		b.WriteByte(0)
	}
	return api.Datum{}, 0
}

func listOf(s string) (api.Datum, int) {
	if len(s) < 2 || s[1] > api.MaxItems {
		return api.Datum{}, 0
	}
	l := make([]api.Datum, s[1])
	at := 2
	for i := range l {
		d, n := itemOf(s[at:])
		if n == 0 {
			return api.Datum{}, 0
		}
		l[i] = d
		at += n
	}
	return api.Datum{Kind: api.KindList, L: l}, at
}

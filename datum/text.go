package datum

import (
	"strconv"
	"strings"

	"vestibule/api"
)

const (
	quote  = '\''
	escape = '%'
	digits = "0123456789ABCDEF"
)

// longestInt is how many bytes the text of an integer has at most: a sign and 19 digits.
const longestInt = 20

// Print is a datum's text.
func Print(d api.Datum) (string, api.Errno) {
	if Check(d) != api.OK {
		return "", api.ErrDatum
	}
	var b strings.Builder
	printTo(d, func(s string) { b.WriteString(s) })
	return b.String(), api.OK
}

// printTo hands the pieces of the text of a datum that may be to put, in order.
func printTo(d api.Datum, put func(s string)) {
	switch d.Kind {
	case api.KindInt:
		put(strconv.Itoa(d.N))
	case api.KindText:
		put("'")
		for i := range len(d.S) {
			put(printByte(d.S[i]))
		}
		put("'")
	case api.KindList:
		put("[")
		for i, x := range d.L {
			if i > 0 {
				put(",")
			}
			printTo(x, put)
		}
		put("]")
	}
}

// printByte is what stands for a byte of a text in its text.
func printByte(c byte) string {
	if c < 33 || c > 126 || c == quote || c == escape {
		return string([]byte{escape, digits[c>>4], digits[c&15]})
	}
	return string([]byte{c})
}

// Parse is the datum of a text.
func Parse(s string) (api.Datum, api.Errno) {
	d, _ := readItem(s)
	if len(s) > 0 && s[0] == '[' {
		d, _ = readList(s)
	}
	// Reading lets more pass than the one text that a datum has, and stops where that ends.
	if p, e := Print(d); e != api.OK || p != s {
		return api.Datum{}, api.ErrDatum
	}
	return d, api.OK
}

// readItem is the integer or the text with whose text s begins, and how many bytes that has: 0, if there is none.
func readItem(s string) (api.Datum, int) {
	if len(s) > 0 && s[0] == quote {
		return readText(s)
	}
	return readInt(s)
}

func readInt(s string) (api.Datum, int) {
	n := 0
	for n < len(s) && n < longestInt && (s[n] == '-' || s[n] >= '0' && s[n] <= '9') {
		n++
	}
	v, err := strconv.Atoi(s[:n])
	if err != nil {
		return api.Datum{}, 0
	}
	return api.Datum{Kind: api.KindInt, N: v}, n
}

func readText(s string) (api.Datum, int) {
	var b strings.Builder
	for i := 1; i < len(s) && b.Len() <= api.MaxText; i++ {
		switch s[i] {
		case quote:
			return api.Datum{Kind: api.KindText, S: b.String()}, i + 1
		case escape:
			c, ok := readHex(s[i+1:])
			if !ok {
				return api.Datum{}, 0
			}
			b.WriteByte(c)
			i += 2
		default:
			b.WriteByte(s[i])
		}
	}
	return api.Datum{}, 0
}

// readHex is the byte whose two hexadecimal digits s begins with.
func readHex(s string) (byte, bool) {
	if len(s) < 2 {
		return 0, false
	}
	high, low := strings.IndexByte(digits, s[0]), strings.IndexByte(digits, s[1])
	if high < 0 || low < 0 {
		return 0, false
	}
	return byte(high<<4 | low), true
}

func readList(s string) (api.Datum, int) {
	if strings.HasPrefix(s, "[]") {
		return api.Datum{Kind: api.KindList}, 2
	}
	l := make([]api.Datum, 0, api.MaxItems)
	for at := 1; len(l) < api.MaxItems; {
		d, n := readItem(s[at:])
		at += n
		if n == 0 || at == len(s) {
			return api.Datum{}, 0
		}
		l = append(l, d)
		if s[at] == ']' {
			return api.Datum{Kind: api.KindList, L: l}, at + 1
		}
		if s[at] != ',' {
			return api.Datum{}, 0
		}
		at++
	}
	return api.Datum{}, 0
}

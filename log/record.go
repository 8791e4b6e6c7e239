package log

// A record stands in the file as a word that is its length, its bytes, and a word that is its number, from 1 on:
// so the file's beginning leads from record to record, and its end tells how many there are.

// wordBytes is how many bytes a word has.
const wordBytes = 4

// word is a number as bytes, the highest first.
func word(n int) string {
	return string([]byte{byte(n >> 24), byte(n >> 16), byte(n >> 8), byte(n)})
}

// wordOf is the number of a word.
func wordOf(b []byte) int {
	n := 0
	for _, c := range b {
		n = n<<8 | int(c)
	}
	return n
}

// framed is a record as it stands in the file.
func framed(s string, number int) string { return word(len(s)) + s + word(number) }

// recordsOf are the records that a file's bytes hold, in order.
func recordsOf(b []byte) []string {
	var l []string
	for {
		r, rest, ok := cut(b)
		if !ok {
			return l
		}
		l = append(l, string(r))
		b = rest
	}
}

// cut is the first record of a file's bytes, and what stands behind it; false, if no whole one is there.
func cut(b []byte) (record, rest []byte, ok bool) {
	if len(b) < 2*wordBytes {
		return nil, nil, false
	}
	n := wordOf(b[:wordBytes])
	if n > len(b)-2*wordBytes {
		return nil, nil, false
	}
	end := wordBytes + n
	return b[wordBytes:end:end], b[end+wordBytes:], true
}

package datum_test

import (
	"hash/fnv"
	"math"
	"strings"
	"testing"

	"vestibule/api"
	"vestibule/datum"
)

// Da1: Bytes.
func TestBytes(t *testing.T) {
	eight := make([]api.Datum, 8)
	for i := range eight {
		eight[i] = text("")
	}
	for _, c := range []struct {
		d    api.Datum
		want string
	}{
		{integer(0), "\x01\x80\x00\x00\x00\x00\x00\x00\x00"},
		{integer(5), "\x01\x80\x00\x00\x00\x00\x00\x00\x05"},
		{integer(-1), "\x01\x7f\xff\xff\xff\xff\xff\xff\xff"},
		{integer(0x0102030405060708), "\x01\x81\x02\x03\x04\x05\x06\x07\x08"},
		{integer(math.MinInt64), "\x01\x00\x00\x00\x00\x00\x00\x00\x00"},
		{integer(math.MaxInt64), "\x01\xff\xff\xff\xff\xff\xff\xff\xff"},
		{text(""), "\x02\x00\x00"},
		{text("ab"), "\x02ab\x00\x00"},
		{text("\x00"), "\x02\x00\xff\x00\x00"},
		{text("a\x00\x00b"), "\x02a\x00\xff\x00\xffb\x00\x00"},
		{text("\xff\x01"), "\x02\xff\x01\x00\x00"},
		{text(strings.Repeat("x", 32)), "\x02" + strings.Repeat("x", 32) + "\x00\x00"},
		{list(), "\x03\x00"},
		{list(integer(5), text("x")), "\x03\x02\x01\x80\x00\x00\x00\x00\x00\x00\x05\x02x\x00\x00"},
		{list(eight...), "\x03\x08" + strings.Repeat("\x02\x00\x00", 8)},
	} {
		if b, e := datum.Bytes(c.d); b != c.want || e != api.OK {
			t.Errorf("%+v: %q %d", c.d, b, e)
		}
	}
	for _, d := range bad() {
		if b, e := datum.Bytes(d); b != "" || e != api.ErrDatum {
			t.Errorf("%+v: %q %d", d, b, e)
		}
	}
}

// Da1: Hash.
func TestHash(t *testing.T) {
	for _, d := range good() {
		b, _ := datum.Bytes(d)
		f := fnv.New32a() // whose rule is that of the document
		f.Write([]byte(b))
		if h, e := datum.Hash(d); h != int(f.Sum32()) || e != api.OK {
			t.Errorf("%+v: %d %d", d, h, e)
		}
	}
	for _, d := range bad() {
		if h, e := datum.Hash(d); h != 0 || e != api.ErrDatum {
			t.Errorf("%+v: %d %d", d, h, e)
		}
	}
	if h, e := datum.Hash(text("")); h != hashOf(2, 0, 0) || e != api.OK {
		t.Error(h, e)
	}
}

// hashOf is the hash of bytes, by multiplying and taking remainders of whole numbers.
func hashOf(l ...int) int {
	h := 2166136261
	for _, c := range l {
		h = (h ^ c) * 16777619 % (1 << 32)
	}
	return h
}

// Da2, Da3: Of of Bytes is the datum, whatever stands behind them.
func TestOfBytes(t *testing.T) {
	for _, d := range good() {
		b, _ := datum.Bytes(d)
		for _, tail := range []string{"", "\x00", "\xff", "\x00\x00", "a", b} {
			if x, n, e := datum.Of(b + tail); !same(x, d) || n != len(b) || e != api.OK {
				t.Errorf("%+v and %q: %+v %d %d", d, tail, x, n, e)
			}
		}
		for i := range b {
			refusedOf(t, b[:i])
		}
	}
}

func refusedOf(t *testing.T, s string) {
	t.Helper()
	if d, n, e := datum.Of(s); !isZero(d) || n != 0 || e != api.ErrDatum {
		t.Errorf("%q: %+v %d %d", s, d, n, e)
	}
}

// Da2: Of refuses what does not begin with the bytes of a datum.
func TestOfRefuses(t *testing.T) {
	one := "\x01\x80\x00\x00\x00\x00\x00\x00\x01"
	for _, s := range []string{
		"", "\x00", "\x04", "\x05\x00", "\xff", "5", "'a'", "\x00" + one,
		"\x01", "\x01\x80", one[:8],
		"\x02", "\x02a", "\x02a\x00", "\x02a\x00\x01", "\x02a\x00\xfe\x00\x00", "\x02\x00\x01\x00\x00", "\x02\x00\xff", "\x02\x00\xff\x00",
		"\x02" + strings.Repeat("a", 33) + "\x00\x00", "\x02" + strings.Repeat("\x00\xff", 33) + "\x00\x00",
		"\x02" + strings.Repeat("a", 32) + "\x00\xff\x00\x00", "\x02" + strings.Repeat("a", 5000),
		"\x03", "\x03\x01", "\x03\x01" + one[:8], "\x03\x02" + one, "\x03\x01\x03\x00", "\x03\x02" + one + "\x03\x00",
		"\x03\x01\x00", "\x03\x01\x04", "\x03\x01\x02" + strings.Repeat("a", 33) + "\x00\x00",
		"\x03\x09" + strings.Repeat(one, 9), "\x03\xff" + strings.Repeat(one, 255), "\x03\x80" + strings.Repeat(one, 128),
	} {
		refusedOf(t, s)
	}
}

// Da2: what Of tells of any bytes has just these bytes.
func TestOfShort(t *testing.T) {
	told := 0
	eachText("\x00\x01\x02\x03a\xff", 6, func(s string) {
		d, n, e := datum.Of(s)
		if e != api.OK {
			return
		}
		told++
		if b, e := datum.Bytes(d); n > len(s) || b != s[:n] || e != api.OK {
			t.Errorf("%q: %+v %d", s, d, n)
		}
	})
	if told < 1000 {
		t.Error(told)
	}
}

// eachText calls f with each text of at most most bytes that are of those of letters.
func eachText(letters string, most int, f func(s string)) {
	var grow func(s string)
	grow = func(s string) {
		f(s)
		for i := 0; i < len(letters) && len(s) < most; i++ {
			grow(s + letters[i:i+1])
		}
	}
	grow("")
}

// Da3: bytes stand as the data do, and none are the beginning of others.
func TestBytesStandInOrder(t *testing.T) {
	var l []string
	for _, d := range rising() {
		b, _ := datum.Bytes(d)
		l = append(l, b)
	}
	for i := range l {
		for j := range l {
			if strings.Compare(l[i], l[j]) != sign(i-j) {
				t.Errorf("%q, %q", l[i], l[j])
			}
			if i != j && strings.HasPrefix(l[i], l[j]) {
				t.Errorf("%q begins with %q", l[i], l[j])
			}
		}
	}
}

// Da3: the same of all short texts, and of lists beside all else.
func TestBytesOfShortTexts(t *testing.T) {
	var l []string
	eachText("\x00\x01\xff", 4, func(s string) { l = append(l, s) })
	for _, a := range l {
		x, _ := datum.Bytes(text(a))
		for _, b := range l {
			y, _ := datum.Bytes(text(b))
			if strings.Compare(x, y) != strings.Compare(a, b) || a != b && strings.HasPrefix(x, y) {
				t.Errorf("%q, %q: %q, %q", a, b, x, y)
			}
		}
	}
	for _, a := range lists() {
		x, _ := datum.Bytes(a)
		for _, b := range good() {
			y, _ := datum.Bytes(b)
			if !same(a, b) && (strings.HasPrefix(x, y) || strings.HasPrefix(y, x)) {
				t.Errorf("%q, %q", x, y)
			}
		}
	}
}

// R3: no two answers share memory, and no answer has room that another one has.
func TestAnswersAreNew(t *testing.T) {
	d := list(integer(1), text("x"))
	b, _ := datum.Bytes(d)
	s, _ := datum.Print(d)
	read := []func() api.Datum{
		func() api.Datum { x, _, _ := datum.Of(b); return x },
		func() api.Datum { x, _ := datum.Parse(s); return x },
	}
	for _, f := range read {
		first, second := f(), f()
		if !same(first, d) || !same(second, d) {
			t.Fatalf("%+v %+v", first, second)
		}
		_ = append(first.L[:0], integer(7), integer(8), integer(9))
		if !same(second, d) || !same(f(), d) {
			t.Errorf("%+v", second)
		}
	}
}

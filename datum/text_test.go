package datum_test

import (
	"fmt"
	"math"
	"regexp"
	"strings"
	"testing"

	"vestibule/api"
	"vestibule/datum"
)

// Da1: Print.
func TestPrint(t *testing.T) {
	for _, c := range []struct {
		d    api.Datum
		want string
	}{
		{integer(0), "0"}, {integer(5), "5"}, {integer(-10), "-10"},
		{integer(math.MaxInt64), "9223372036854775807"}, {integer(math.MinInt64), "-9223372036854775808"},
		{text(""), "''"}, {text("a b"), "'a%20b'"}, {text("'"), "'%27'"}, {text("%"), "'%25'"}, {text("a,[]b"), "'a,[]b'"},
		{text("\x00\x0a\x1f !~\x7f\x80\xaf\xff"), "'%00%0A%1F%20!~%7F%80%AF%FF'"},
		{list(), "[]"}, {list(integer(1)), "[1]"}, {list(integer(1), text("x")), "[1,'x']"},
		{list(text(","), text(""), integer(-1)), "[',','',-1]"},
	} {
		if s, e := datum.Print(c.d); s != c.want || e != api.OK {
			t.Errorf("%+v: %s %d", c.d, s, e)
		}
	}
	for _, d := range bad() {
		if s, e := datum.Print(d); s != "" || e != api.ErrDatum {
			t.Errorf("%+v: %s %d", d, s, e)
		}
	}
}

// Da1, Da2: of each byte there is one text.
func TestEachByte(t *testing.T) {
	for c := range 256 {
		plain, hex := string([]byte{byte(c)}), fmt.Sprintf("%%%02X", c)
		want, other := hex, plain
		if c >= 33 && c <= 126 && c != '\'' && c != '%' {
			want, other = plain, hex
		}
		if s, e := datum.Print(text(plain)); s != "'"+want+"'" || e != api.OK {
			t.Errorf("%d: %s %d", c, s, e)
		}
		if d, e := datum.Parse("'" + want + "'"); !same(d, text(plain)) || e != api.OK {
			t.Errorf("%d: %+v %d", c, d, e)
		}
		refusedParse(t, "'"+other+"'")
	}
}

// Da3: Parse of Print is the datum.
func TestParsePrint(t *testing.T) {
	for _, d := range good() {
		s, _ := datum.Print(d)
		if x, e := datum.Parse(s); !same(x, d) || e != api.OK {
			t.Errorf("%s: %+v %d", s, x, e)
		}
		for _, tail := range []string{" ", "\n", "]", "'", ",", "\x00"} {
			refusedParse(t, s+tail)
			refusedParse(t, tail+s)
		}
	}
}

func refusedParse(t *testing.T, s string) {
	t.Helper()
	if d, e := datum.Parse(s); !isZero(d) || e != api.ErrDatum {
		t.Errorf("%q: %+v %d", s, d, e)
	}
}

// Da2: Parse refuses what is not just the text of a datum.
func TestParseRefuses(t *testing.T) {
	for _, s := range []string{
		"", " ", "a", "05", "+5", "-0", "-", "--5", "-05", "5-", "1_0", "0x1", "1.0", "1e3", "00", " 5", "5 ", "5,6",
		"9223372036854775808", "-9223372036854775809", "99999999999999999999", "-99999999999999999999", "000000000000000000005",
		"123456789012345678901234567890", strings.Repeat("1", 5000), strings.Repeat("-", 5000),
		"'", "'a", "a'", "'''", "'a'b", "'a''b'", "'%'", "'%4'", "'%4", "'%", "'%2", "'%2a'", "'%2g'", "'%G0'", "'%+1'", "'% 1'", "'%7f'", "'%aF'",
		"'%41'", "'%21'", "'a b'", "'\t'", "\"a\"", "'\x80'", "'" + strings.Repeat("a", 33) + "'", "'" + strings.Repeat("%00", 33) + "'",
		"'" + strings.Repeat("a", 5000), "'" + strings.Repeat("a", 5000) + "'",
		"[", "]", "[1", "[1,", "[1,]", "[,1]", "[,]", "[1,,2]", "[1 ,2]", "[1, 2]", "[ ]", "[]]", "[[1]]", "[[]]", "[1,[]]", "[05]", "[1,-0]", "['a]", "['a'", "[1]2",
		"['a''b']", "[1'a']", "[1;2]", "['a b']", "['%41']", "['" + strings.Repeat("a", 33) + "']", "[9223372036854775808]",
		"[1,2,3,4,5,6,7,8,9]", "[1,2,3,4,5,6,7,8,]", "[1,2,3,4,5,6,7,8", "[1,2,3,4,5,6,7,8,",
	} {
		refusedParse(t, s)
	}
}

// Da2: of all short texts just those of the document's form are read.
func TestParseShort(t *testing.T) {
	number := `(?:0|-?[1-9][0-9]*)`
	quoted := `'(?:[!-$&(-~]|%(?:[018-9A-F][0-9A-F]|2[057]|7F))*'`
	item := `(?:` + number + `|` + quoted + `)`
	form := regexp.MustCompile(`^(?:` + item + `|\[\]|\[` + item + `(?:,` + item + `)*\])$`)
	told := 0
	check := func(s string) {
		d, e := datum.Parse(s)
		if (e == api.OK) != form.MatchString(s) {
			t.Errorf("%q: %+v %d", s, d, e)
		}
		if e != api.OK {
			return
		}
		told++
		if p, e := datum.Print(d); p != s || e != api.OK {
			t.Errorf("%q: %s %d", s, p, e)
		}
	}
	eachText("-01',[]%2A a", 5, check)
	eachText("%0278FfG+ ", 4, func(s string) { check("'" + s + "'") })
	if told < 1000 {
		t.Error(told)
	}
}

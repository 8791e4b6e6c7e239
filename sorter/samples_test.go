package sorter_test

import (
	"slices"
	"strings"
	"testing"

	"vestibule/api"
	"vestibule/sorter"
)

// chance is numbers of all sorts, the same ones in each run.
type chance uint32

func (c *chance) below(n int) int {
	*c = *c*1664525 + 1013904223
	return int(*c>>8) % n
}

// texts are so many texts of few bytes, so that many are the same, and many begin another one.
func (c *chance) texts(n int) []string {
	l := make([]string, n)
	for i := range l {
		b := make([]byte, c.below(4))
		for j := range b {
			b[j] = "\x00ab\x7f\x80\xff"[c.below(6)]
		}
		l[i] = string(b)
	}
	return l
}

// dealt are texts dealt out to so many runs, each of which rises; some may be empty.
func (c *chance) dealt(l []string, n int) [][]string {
	runs := make([][]string, n)
	for _, x := range l {
		i := c.below(n)
		runs[i] = append(runs[i], x)
	}
	for _, r := range runs {
		slices.Sort(r)
	}
	return runs
}

// odd are texts, rising strictly by their bytes, whose order other ways of comparing would tell otherwise.
func odd() []string {
	return []string{
		"", "\x00", "\x00\x00", "\x00\xff", "\x01", "\t", "\n", " ", "-1", "10", "2", "A", "B", "a", "a\x00", "a\x00b", "aa", "ab", "b",
		"z", "~", "\x7f", "\x80", "\xc3", "\xc3\xa4", "\xc3\xa4a", "\xe4", "\xef\xbf\xbd", "\xff", "\xff\x00", "\xff\xff",
		"\xff\xff" + strings.Repeat("x", 5000), "\xff\xff" + strings.Repeat("x", 5000) + "\x00", "\xff\xff" + strings.Repeat("x", 4999) + "y",
	}
}

// mixed is a list in another order.
func (c *chance) mixed(l []string) []string {
	l = slices.Clone(l)
	for i := range l {
		j := i + c.below(len(l)-i)
		l[i], l[j] = l[j], l[i]
	}
	return l
}

// with is a sorter of so much room that took texts.
func with(t *testing.T, room int, l ...string) *sorter.Sorter {
	t.Helper()
	s, e := sorter.New(room)
	if e != api.OK || s == nil {
		t.Fatalf("New(%d): %v %d", room, s, e)
	}
	for _, x := range l {
		add(t, s, x)
	}
	return s
}

func add(t *testing.T, s *sorter.Sorter, x string) {
	t.Helper()
	if e := s.Add(x); e != api.OK {
		t.Fatalf("Add(%.40q): %d", x, e)
	}
}

func runs(t *testing.T, what string, s *sorter.Sorter, want int) {
	t.Helper()
	if n := s.Runs(); n != want {
		t.Errorf("%s: Runs %d, not %d", what, n, want)
	}
}

// same tells where a list is not as another one.
func same(t *testing.T, what string, l []string, e api.Errno, want []string) {
	t.Helper()
	if e != api.OK || !slices.Equal(l, want) {
		t.Errorf("%s: %d texts %.200q %d, not %d %.200q", what, len(l), l, e, len(want), want)
	}
}

// tells tells where the texts of a sorter are not these.
func tells(t *testing.T, what string, s *sorter.Sorter, want []string) {
	t.Helper()
	l, e := s.Sorted()
	same(t, what, l, e, want)
}

// merges tells where runs put together are not these.
func merges(t *testing.T, what string, l [][]string, want []string) {
	t.Helper()
	m, e := sorter.Merge(l)
	same(t, what, m, e, want)
}

package sorter_test

import (
	"slices"
	"strconv"
	"strings"
	"testing"
	"unsafe"

	"vestibule/api"
	"vestibule/sorter"
)

// So2: runs of all sorts, empty ones too.
func TestMerge(t *testing.T) {
	for i, c := range []struct {
		runs [][]string
		want []string
	}{
		{nil, nil},
		{[][]string{}, nil},
		{[][]string{nil}, nil},
		{[][]string{{}, nil, {}}, nil},
		{[][]string{{""}}, []string{""}},
		{[][]string{{"", ""}, nil, {""}}, []string{"", "", ""}},
		{[][]string{{"a"}}, []string{"a"}},
		{[][]string{{"a", "b", "c"}}, []string{"a", "b", "c"}},
		{[][]string{{"b"}, {"a"}}, []string{"a", "b"}},
		{[][]string{{"a", "b"}, {"c", "d"}}, []string{"a", "b", "c", "d"}},
		{[][]string{{"c", "d"}, {"a", "b"}}, []string{"a", "b", "c", "d"}},
		{[][]string{{"a", "d"}, {"b", "c"}}, []string{"a", "b", "c", "d"}},
		{[][]string{nil, {"b"}, {}, {"a", "c"}, nil}, []string{"a", "b", "c"}},
		{[][]string{{"a", "a"}, {"a"}, {"a", "a"}}, []string{"a", "a", "a", "a", "a"}},
		{[][]string{{"a", "b", "b"}, {"b", "c"}}, []string{"a", "b", "b", "b", "c"}},
		{[][]string{{"z"}, {"y"}, {"x"}, {"w"}, {"v"}}, []string{"v", "w", "x", "y", "z"}},
		{[][]string{{"\x7f", "\xff"}, {"", "\x00", "\x80"}}, []string{"", "\x00", "\x7f", "\x80", "\xff"}},
		{[][]string{{"a", "aa", "b"}, {"a\x00", "ab"}}, []string{"a", "a\x00", "aa", "ab", "b"}},
	} {
		merges(t, strconv.Itoa(i), c.runs, c.want)
	}
}

// So2: one run that does not rise is enough, wherever it stands, and wherever it falls.
func TestMergeRefuses(t *testing.T) {
	for i, l := range [][][]string{
		{{"b", "a"}},
		{{"a", ""}},
		{{"a", "b", "a"}},
		{{"a", "c", "b", "d"}},
		{{"b", "a", "c"}},
		{{"aa", "a"}},
		{{"a\x00", "a"}},
		{{"\xff", "\x7f"}},
		{{"\x80", "\x00"}},
		{{"b", "a"}, {"c", "d"}},
		{{"c", "d"}, {"b", "a"}},
		{{"c", "d"}, nil, {"e"}, {"b", "a"}, {"f"}},
		{nil, {"b", "a"}},
		{{"c", "b"}, {"b", "a"}},
		{slices.Concat(slices.Repeat([]string{"a"}, 1000), []string{""})},
	} {
		if m, e := sorter.Merge(l); len(m) != 0 || e != api.ErrArg {
			t.Errorf("%d: %.200q %d", i, m, e)
		}
	}
}

// So2: texts dealt out to runs are put together again.
func TestMergeDealt(t *testing.T) {
	c := chance(4)
	for n := range 60 {
		l := slices.Concat(c.texts(3*n), c.mixed(odd()))
		want := slices.Sorted(slices.Values(l))
		for _, k := range []int{1, 2, 3, 7, 40, 400} {
			merges(t, strconv.Itoa(len(l))+" texts in "+strconv.Itoa(k), c.dealt(l, k), want)
		}
	}
}

// So2: many runs, and many that are empty.
func TestMergeMany(t *testing.T) {
	many := make([][]string, 100000)
	var want []string
	for i := range many {
		if i%3 != 0 {
			x := strconv.Itoa((i * 7919) % 100000)
			many[i] = []string{x}
			want = append(want, x)
		}
	}
	slices.Sort(want)
	merges(t, "many", many, want)
}

// So3: a merge of parts that were merged is the merge of all.
func TestMergeOfMerges(t *testing.T) {
	c := chance(5)
	for range 50 {
		all := c.dealt(slices.Concat(c.texts(100), odd()), 12)
		want := slices.Sorted(slices.Values(slices.Concat(all...)))
		merges(t, "all", all, want)
		for _, cut := range []int{0, 1, 6, 11, 12} {
			a, e := sorter.Merge(all[:cut])
			if e != api.OK {
				t.Fatal(e)
			}
			b, e := sorter.Merge(all[cut:])
			if e != api.OK {
				t.Fatal(e)
			}
			merges(t, "parts", [][]string{a, b}, want)
			merges(t, "parts, the other way", [][]string{b, nil, a}, want)
		}
	}
}

// So3: what sorters told of parts is merged to what one tells of all.
func TestMergeOfSorted(t *testing.T) {
	c := chance(6)
	for room := 1; room < 40; room += 3 {
		l := c.texts(120)
		var parts [][]string
		for part := range slices.Chunk(l, 17) {
			p, e := with(t, room, part...).Sorted()
			if e != api.OK {
				t.Fatal(e)
			}
			parts = append(parts, p)
		}
		all, e := with(t, room, l...).Sorted()
		if e != api.OK {
			t.Fatal(e)
		}
		merges(t, "room "+strconv.Itoa(room), parts, all)
	}
}

// R3: runs are not changed, and what lies behind their ends is neither read nor changed.
func TestMergeLeavesRuns(t *testing.T) {
	one := []string{"b", "d", "A", "z"}
	two := []string{"a", "c", "B"}
	outer := [][]string{one[:2], two[:2], {"e"}, {"f", "0"}}
	merges(t, "pieces", outer[:2], []string{"a", "b", "c", "d"})
	if !slices.Equal(one, []string{"b", "d", "A", "z"}) || !slices.Equal(two, []string{"a", "c", "B"}) {
		t.Errorf("changed: %q %q", one, two)
	}
	if len(outer[0]) != 2 || len(outer[1]) != 2 || len(outer[2]) != 1 || len(outer[3]) != 2 {
		t.Errorf("changed: %q", outer)
	}
	merges(t, "pieces, again", outer[:2], []string{"a", "b", "c", "d"})
}

// R3: one list may stand for several runs.
func TestMergeOneListOften(t *testing.T) {
	r := []string{"a", "b", "b"}
	merges(t, "often", [][]string{r, r[:1], r, r[1:]}, []string{"a", "a", "a", "b", "b", "b", "b", "b", "b"})
}

// R3: an answer shares nothing with what was handed in, nor with another answer.
func TestMergeIsNew(t *testing.T) {
	b := []byte("abc")
	r := []string{unsafe.String(&b[0], 1), unsafe.String(&b[1], 2)}
	runs := [][]string{r}
	l, e := sorter.Merge(runs)
	m, _ := sorter.Merge(runs)
	copy(b, "zzz")
	r[0], r[1] = "x", "y"
	same(t, "what was handed in was changed", l, e, []string{"a", "bc"})
	clear(l[:cap(l)])
	same(t, "another answer was changed", m, e, []string{"a", "bc"})
	clear(m[:cap(m)])
	if !slices.Equal(r, []string{"x", "y"}) {
		t.Errorf("an answer was changed, and with it what was handed in: %q", r)
	}
}

// So2: long texts that differ at their ends.
func TestMergeLong(t *testing.T) {
	x := strings.Repeat("x", 1<<20)
	merges(t, "long", [][]string{{x + "a", x + "c"}, {x, x + "b"}}, []string{x, x + "a", x + "b", x + "c"})
}

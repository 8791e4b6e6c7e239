package method_test

import (
	"slices"
	"strings"
	"testing"

	"vestibule/api"
	"vestibule/method"
)

// What the interfaces ask for is just what the document writes: either may stand for the other.
var (
	_ interface {
		Name() string
		Insert(e api.Entry) api.Errno
		Delete(e api.Entry) api.Errno
		Find(key api.Datum) ([]int, api.Errno)
		Entries() []api.Entry
		Pages() []int
		Check() bool
		Drop() api.Errno
	} = method.Method(nil)
	_ interface {
		Range(from, to *api.Datum, back bool) ([]api.Entry, api.Errno)
	} = method.Ordered(nil)
	_ interface{ Load(l []api.Entry) api.Errno } = method.Loaded(nil)
	_ interface {
		Item(d api.Datum) ([]int, api.Errno)
	} = method.Items(nil)
	_ interface{ Counts() ([]api.Datum, []int) }              = method.Counted(nil)
	_ method.Method                                           = (*method.Plain)(nil)
	_ method.Ordered                                          = (*method.Plain)(nil)
	_ method.Method                                           = bare{}
	_ method.Ordered                                          = ordered{}
	_ method.Loaded                                           = loaded{}
	_ method.Items                                            = items{}
	_ method.Counted                                          = counted{}
	_ func() *method.Plain                                    = method.NewPlain
	_ func(m method.Method) []string                          = method.Abilities
	_ func(p *method.Plain, key api.Datum) ([]int, api.Errno) = (*method.Plain).Find
)

// bare is a method that can nothing besides, and none of whose calls may be made to find that out.
type bare struct{}

func (bare) Name() string                      { panic("asked") }
func (bare) Insert(api.Entry) api.Errno        { panic("asked") }
func (bare) Delete(api.Entry) api.Errno        { panic("asked") }
func (bare) Find(api.Datum) ([]int, api.Errno) { panic("asked") }
func (bare) Entries() []api.Entry              { panic("asked") }
func (bare) Pages() []int                      { panic("asked") }
func (bare) Check() bool                       { panic("asked") }
func (bare) Drop() api.Errno                   { panic("asked") }

type ordered struct{}

func (ordered) Range(from, to *api.Datum, back bool) ([]api.Entry, api.Errno) { panic("asked") }

type loaded struct{}

func (loaded) Load([]api.Entry) api.Errno { panic("asked") }

type items struct{}

func (items) Item(api.Datum) ([]int, api.Errno) { panic("asked") }

type counted struct{}

func (counted) Counts() ([]api.Datum, []int) { panic("asked") }

// nearly has the names of all abilities, but none of them as the document writes it.
type nearly struct{ bare }

func (nearly) Range(from, to api.Datum, back bool) ([]api.Entry, api.Errno) { panic("asked") }
func (nearly) Load([]api.Entry)                                             { panic("asked") }
func (nearly) Item(api.Datum) ([]int, error)                                { panic("asked") }
func (nearly) Counts() ([]api.Datum, []int, api.Errno)                      { panic("asked") }

// byPointer is ordered only where it is a pointer.
type byPointer struct{ bare }

func (*byPointer) Range(from, to *api.Datum, back bool) ([]api.Entry, api.Errno) { panic("asked") }

func able(t *testing.T, what string, m method.Method, want string) {
	t.Helper()
	if l := method.Abilities(m); !slices.Equal(l, strings.Fields(want)) {
		t.Errorf("%s: %q, not %q", what, l, want)
	}
}

// Am3: all that a method may have, in each choice, in one order.
func TestAbilities(t *testing.T) {
	for _, c := range []struct {
		m    method.Method
		want string
	}{
		{nil, ""},
		{bare{}, ""},
		{&bare{}, ""},
		{struct {
			bare
			ordered
		}{}, "ordered"},
		{struct {
			bare
			loaded
		}{}, "loaded"},
		{struct {
			bare
			items
		}{}, "items"},
		{struct {
			bare
			counted
		}{}, "counted"},
		{struct {
			loaded
			ordered
			bare
		}{}, "ordered loaded"},
		{struct {
			items
			ordered
			bare
		}{}, "ordered items"},
		{struct {
			counted
			ordered
			bare
		}{}, "ordered counted"},
		{struct {
			items
			loaded
			bare
		}{}, "loaded items"},
		{struct {
			counted
			loaded
			bare
		}{}, "loaded counted"},
		{struct {
			counted
			items
			bare
		}{}, "items counted"},
		{struct {
			bare
			items
			loaded
			ordered
		}{}, "ordered loaded items"},
		{struct {
			bare
			counted
			loaded
			ordered
		}{}, "ordered loaded counted"},
		{struct {
			bare
			counted
			items
			ordered
		}{}, "ordered items counted"},
		{struct {
			bare
			counted
			items
			loaded
		}{}, "loaded items counted"},
		{struct {
			counted
			items
			loaded
			ordered
			bare
		}{}, "ordered loaded items counted"},
	} {
		able(t, c.want, c.m, c.want)
	}
}

// Am3: the methods count, as they are written, not their names, and not how a value is called.
func TestAbilitiesOfOthers(t *testing.T) {
	able(t, "nearly", nearly{}, "")
	able(t, "a value", byPointer{}, "")
	able(t, "a pointer", &byPointer{}, "ordered")
	able(t, "Plain", method.NewPlain(), "ordered")
	// What stands within a method of another type counts as that type gives it on.
	able(t, "hidden", struct{ method.Method }{method.NewPlain()}, "")
	able(t, "given on", struct{ *method.Plain }{method.NewPlain()}, "ordered")
	able(t, "none in it", struct {
		method.Method
		method.Counted
	}{}, "counted")
}

// R3: an answer is new memory, with its spare room.
func TestAbilitiesAreNew(t *testing.T) {
	p := method.NewPlain()
	l, m := method.Abilities(p), method.Abilities(p)
	l[0] = "x"
	l = append(l, "y")
	clear(l[:cap(l)])
	if !slices.Equal(m, []string{"ordered"}) {
		t.Errorf("%q", m)
	}
	able(t, "again", p, "ordered")
}

package overlay_test

import (
	"slices"
	"strings"
	"testing"

	"hammerpond/api"
	"hammerpond/overlay"
)

func base() []api.File {
	return []api.File{{Name: "a", Text: "xy"}, {Name: "b", Text: "old"}, {Name: "c", Text: "q"}, {Name: "e"}}
}

func expectRead(t *testing.T, o *overlay.Overlay, name, text string, want error) {
	t.Helper()
	got, err := o.Read(name)
	if got != text || err != want {
		t.Errorf("Read(%q): %q, %v, wanted %q, %v", name, got, err, text, want)
	}
}

func expectWrite(t *testing.T, o *overlay.Overlay, name, text string, want error) {
	t.Helper()
	if err := o.Write(name, text); err != want {
		t.Errorf("Write(%q, %q): %v, wanted %v", name, text, err, want)
	}
}

func expectOwn(t *testing.T, o *overlay.Overlay, want ...api.File) {
	t.Helper()
	if got := o.Own(); !slices.Equal(got, want) {
		t.Errorf("Own: %q, wanted %q", got, want)
	}
}

func TestReadOfBase(t *testing.T) {
	o := overlay.New(base(), []string{"e", "d", "a"}, []string{"b"})
	expectRead(t, o, "a", "xy", nil)
	expectRead(t, o, "e", "", nil)
	expectRead(t, o, "d", "", api.ErrNone)
	expectRead(t, o, "c", "", api.ErrBarred)
	expectRead(t, o, "b", "", api.ErrBarred)
	expectRead(t, o, "none", "", api.ErrBarred)
	expectRead(t, o, "", "", api.ErrBarred)
	expectOwn(t, o)
}

func TestNothingDeclared(t *testing.T) {
	o := overlay.New(nil, nil, nil)
	expectRead(t, o, "a", "", api.ErrBarred)
	expectWrite(t, o, "a", "x", api.ErrBarred)
	expectOwn(t, o)
}

func TestWriteErrors(t *testing.T) {
	full := strings.Repeat("z", api.MaxText)
	o := overlay.New(base(), []string{"a"}, []string{"b", "d"})
	expectWrite(t, o, "a", "n", api.ErrBarred)
	expectWrite(t, o, "a", full+"z", api.ErrBarred)
	expectWrite(t, o, "", "", api.ErrBarred)
	expectWrite(t, o, "b", full+"z", api.ErrMany)
	expectOwn(t, o)
	expectRead(t, o, "b", "", api.ErrBarred)
	expectRead(t, o, "a", "xy", nil)

	expectWrite(t, o, "b", full, nil)
	expectWrite(t, o, "b", full+"z", api.ErrMany)
	expectRead(t, o, "b", full, nil)
	expectOwn(t, o, api.File{Name: "b", Text: full})
}

func TestReadOfWhatWasWritten(t *testing.T) {
	o := overlay.New(base(), []string{"a", "b"}, []string{"b", "c", "d"})
	expectRead(t, o, "b", "old", nil)
	expectWrite(t, o, "b", "new", nil)
	expectRead(t, o, "b", "new", nil)
	expectWrite(t, o, "b", "", nil)
	expectRead(t, o, "b", "", nil)
	// Neither need the name be among needs, nor the file in base.
	expectRead(t, o, "c", "", api.ErrBarred)
	expectWrite(t, o, "c", "", nil)
	expectRead(t, o, "c", "", nil)
	expectWrite(t, o, "d", "m", nil)
	expectRead(t, o, "d", "m", nil)
	expectOwn(t, o, api.File{Name: "b"}, api.File{Name: "c"}, api.File{Name: "d", Text: "m"})
}

func TestOwnIsSorted(t *testing.T) {
	o := overlay.New(nil, nil, []string{"c", "a", "b.", "b"})
	for _, name := range []string{"b.", "c", "a", "b", "c", "a"} {
		expectWrite(t, o, name, "1 "+name, nil)
		expectWrite(t, o, name, "2 "+name, nil)
	}
	expectOwn(t, o,
		api.File{Name: "a", Text: "2 a"},
		api.File{Name: "b", Text: "2 b"},
		api.File{Name: "b.", Text: "2 b."},
		api.File{Name: "c", Text: "2 c"})
}

func TestArgumentsAreNotKept(t *testing.T) {
	l, needs, targets := base(), []string{"a"}, []string{"b"}
	o := overlay.New(l, needs, targets)
	l[0].Text, needs[0], targets[0] = "changed", "c", "c"
	expectRead(t, o, "a", "xy", nil)
	expectRead(t, o, "c", "", api.ErrBarred)
	expectWrite(t, o, "b", "n", nil)
	expectWrite(t, o, "c", "n", api.ErrBarred)
}

func TestArgumentsAreNotChanged(t *testing.T) {
	l, needs, targets := base(), []string{"c", "a"}, []string{"c", "b"}
	o := overlay.New(l, needs, targets)
	expectWrite(t, o, "b", "n", nil)
	expectWrite(t, o, "c", "n", nil)
	if !slices.Equal(l, base()) || !slices.Equal(needs, []string{"c", "a"}) || !slices.Equal(targets, []string{"c", "b"}) {
		t.Error(l, needs, targets)
	}
}

func TestOwnIsNew(t *testing.T) {
	o := overlay.New(nil, nil, []string{"a", "b"})
	expectWrite(t, o, "b", "n", nil)
	first, second := o.Own(), o.Own()
	first[0].Text = "changed"
	if second[0].Text != "n" {
		t.Error("two results share memory")
	}
	expectOwn(t, o, api.File{Name: "b", Text: "n"})
	expectWrite(t, o, "a", "m", nil)
	if !slices.Equal(second, []api.File{{Name: "b", Text: "n"}}) {
		t.Error("a later Write changed an earlier result")
	}
}

func TestOverlaysAreSeparate(t *testing.T) {
	l, names := base(), []string{"a", "b"}
	o, other := overlay.New(l, names, names), overlay.New(l, names, names)
	expectWrite(t, o, "a", "n", nil)
	expectRead(t, other, "a", "xy", nil)
	expectOwn(t, other)
}

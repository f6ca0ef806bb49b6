package build_test

import (
	"reflect"
	"slices"
	"strconv"
	"strings"
	"testing"

	"hammerpond/api"
	"hammerpond/build"
	"hammerpond/files"
	"hammerpond/graph"
	"hammerpond/makefile"
	"hammerpond/plan"
	"hammerpond/record"
)

func group(targets, needs string, cmds ...string) api.Group {
	return api.Group{Targets: strings.Fields(targets), Needs: strings.Fields(needs), Cmds: cmds}
}

func phony(targets, needs string) api.Group {
	return api.Group{Targets: strings.Fields(targets), Needs: strings.Fields(needs), Phony: true}
}

// have returns sorted files from words of the form name=text.
func have(words string) []api.File {
	var l []api.File
	for _, word := range strings.Fields(words) {
		name, text, _ := strings.Cut(word, "=")
		l = files.Put(l, api.File{Name: name, Text: text})
	}
	return l
}

// I1: One.

func TestOne(t *testing.T) {
	l := have("a=xy b=old d=12 z=9")
	for _, x := range []struct {
		group  api.Group
		out    string
		record string
	}{
		{group("b", "a", "copy a b"), "b=xy", "1 1 1 8:copy a b a 2:xy b 2:xy"},
		{group("c", "d a", "join c d a", "turn c c"), "c=yx21", "2 2 1 10:join c d a 8:turn c c d 2:12 a 2:xy c 4:yx21"},
		{group("c b", "", "put c 1", "put b "), "b= c=1", "2 0 2 7:put c 1 6:put b  b 0: c 1:1"},
		{group("c", "none a", "copy a c"), "c=xy", "1 1 1 8:copy a c a 2:xy c 2:xy"},
		{group("", "a", "need a"), "", "1 1 0 6:need a a 2:xy"},
		{group("", ""), "", "0 0 0"},
	} {
		out, r, err := build.One(x.group, l)
		if err != nil || !slices.Equal(out, have(x.out)) || record.Text(r) != x.record {
			t.Errorf("%v: %v, %q, %v", x.group, out, record.Text(r), err)
		}
	}
}

func expectOneFails(t *testing.T, g api.Group, l []api.File, want error) {
	t.Helper()
	out, r, err := build.One(g, l)
	if err != want || len(out) != 0 || !reflect.DeepEqual(r, api.Record{}) {
		t.Errorf("%v: %v, %v, %v, wanted %v", g, out, r, err, want)
	}
}

func TestOneErrors(t *testing.T) {
	l := have("a=xy b=old e=")
	expectOneFails(t, group("b", "a", "fail"), l, api.ErrFail)
	expectOneFails(t, group("b", "e", "put b x", "need e"), l, api.ErrFail)
	expectOneFails(t, group("b", "a", "fly"), l, api.ErrText)
	expectOneFails(t, group("b", "", "copy a b"), l, api.ErrBarred)
	expectOneFails(t, group("b", "a", "copy a c"), l, api.ErrBarred)
	expectOneFails(t, group("b", "none", "copy none b"), l, api.ErrNone)
	expectOneFails(t, group("b c", "a", "copy a b"), l, api.ErrNone)
	expectOneFails(t, group("b", "a"), l, api.ErrNone)
	expectOneFails(t, group("b", "", "put b 123456789012345678901"), l, api.ErrMany)
	expectOneFails(t, phony("all", "a"), l, api.ErrNone)
}

// The text of the record may have MaxKeep bytes, but not one more. Only the name
// of a need is long here, since names in a list of files may be.
func TestOneSize(t *testing.T) {
	rest := len("1 2 1 8:copy a b a 1:1  1:x b 1:1")
	for n := api.MaxKeep - 3; n <= api.MaxKeep+3; n++ {
		long := strings.Repeat("n", n-rest)
		l := files.Put(have("a=1"), api.File{Name: long, Text: "x"})
		g := group("b", "a "+long, "copy a b")
		if n > api.MaxKeep {
			expectOneFails(t, g, l, api.ErrFull)
			continue
		}
		out, r, err := build.One(g, l)
		if err != nil || !slices.Equal(out, have("b=1")) || len(record.Text(r)) != n {
			t.Errorf("%d bytes: %v, %v, %v", n, out, r, err)
		}
	}
}

// A command that fails counts before the size of the record.
func TestOneErrorsInOrder(t *testing.T) {
	long := strings.Repeat("n", 400)
	l := files.Put(have("a=1"), api.File{Name: long, Text: "x"})
	expectOneFails(t, group("b", "a "+long, "copy a b"), l, api.ErrFull)
	expectOneFails(t, group("b", "a "+long, "copy a b", "fail"), l, api.ErrFail)
	expectOneFails(t, group("b c", "a "+long, "copy a b"), l, api.ErrNone)
	expectOneFails(t, group("b", long, "copy a b"), l, api.ErrBarred)
}

// A record that would fill the memory is too large.
func TestOneThatNeedsTooMuch(t *testing.T) {
	l := []api.File{{Name: "a", Text: strings.Repeat("z", 1<<20)}}
	g := api.Group{Targets: []string{"b"}, Needs: slices.Repeat([]string{"a"}, 1<<16), Cmds: []string{"put b x"}}
	expectOneFails(t, g, l, api.ErrFull)
}

// I1: Unit.

func chain() []api.Group {
	return []api.Group{
		group("b", "a", "turn a b"),
		group("d c", "b", "copy b c", "swap b d x z"),
		phony("all", "b c"),
		group("e", "a d", "join e a d"),
		group("f", "z", "copy z f"),
	}
}

// texts returns the texts of records.
func texts(kept map[string]api.Record) map[string]string {
	m := map[string]string{}
	for name, r := range kept {
		m[name] = record.Text(r)
	}
	return m
}

func expectUnit(t *testing.T, unit []int, l, want string, records map[string]string) {
	t.Helper()
	out, kept, err := build.Unit(chain(), unit, have(l))
	if err != nil || !slices.Equal(out, have(want)) || !reflect.DeepEqual(texts(kept), records) {
		t.Errorf("%v: %v, %q, %v, wanted %q, %q", unit, out, texts(kept), err, want, records)
	}
}

func TestUnit(t *testing.T) {
	b := "1 1 1 8:turn a b a 2:xy b 2:yx"
	d := "2 1 2 8:copy b c 12:swap b d x z b 2:yx c 2:yx d 2:yz"
	e := "1 2 1 10:join e a d a 2:xy d 2:yz e 4:xyyz"
	expectUnit(t, []int{0}, "a=xy", "b=yx", map[string]string{"b": b})
	expectUnit(t, []int{0, 1}, "a=xy", "b=yx c=yx d=yz", map[string]string{"b": b, "d": d})
	expectUnit(t, []int{0, 1, 2, 3}, "a=xy", "b=yx c=yx d=yz e=xyyz", map[string]string{"b": b, "d": d, "e": e})
	// What was there before is replaced.
	expectUnit(t, []int{0, 1, 2, 3}, "a=xy b=1 c=2 d=3 e=4 f=5", "b=yx c=yx d=yz e=xyyz", map[string]string{"b": b, "d": d, "e": e})
	// What the unit does not build is used as it is.
	expectUnit(t, []int{1, 3}, "a=xy b=yx c=2 d=3", "c=yx d=yz e=xyyz", map[string]string{"d": d, "e": e})
	expectUnit(t, []int{3}, "a=xy d=yz", "e=xyyz", map[string]string{"e": e})
	expectUnit(t, []int{2}, "", "", map[string]string{})
	expectUnit(t, nil, "a=xy", "", map[string]string{})
}

// Groups are built in the order of the unit.
func TestUnitOrder(t *testing.T) {
	expectUnit(t, []int{1, 0}, "a=xy b=q", "b=yx c=q d=q", map[string]string{
		"b": "1 1 1 8:turn a b a 2:xy b 2:yx",
		"d": "2 1 2 8:copy b c 12:swap b d x z b 1:q c 1:q d 1:q",
	})
}

func expectUnitFails(t *testing.T, groups []api.Group, unit []int, l string, want error) {
	t.Helper()
	before := have(l)
	now := have(l)
	out, kept, err := build.Unit(groups, unit, now)
	if err != want || len(out) != 0 || kept != nil || !slices.Equal(now, before) {
		t.Errorf("%v: %v, %v, %v, wanted %v", unit, out, kept, err, want)
	}
}

func TestUnitErrors(t *testing.T) {
	groups := append(chain(), group("g", "", "fail"), group("h", "", "fly"), group("i", "a", "copy b i"), group("k", strings.Repeat("n", 300)+" a", "copy a k"))
	expectUnitFails(t, groups, []int{0, 1, 4}, "a=xy", api.ErrNone)
	expectUnitFails(t, groups, []int{1}, "a=xy", api.ErrNone)
	expectUnitFails(t, groups, []int{0, 5}, "a=xy", api.ErrFail)
	expectUnitFails(t, groups, []int{0, 1, 5, 6}, "a=xy", api.ErrFail)
	expectUnitFails(t, groups, []int{0, 6, 1, 5}, "a=xy", api.ErrText)
	expectUnitFails(t, groups, []int{0, 7}, "a=xy", api.ErrBarred)
	expectUnitFails(t, groups, []int{0, 8}, "a=xy "+strings.Repeat("n", 300)+"=1", api.ErrFull)
	expectUnitFails(t, groups, []int{8, 5}, "a=xy "+strings.Repeat("n", 300)+"=1", api.ErrFull)
}

// What is written is seen only by those that need it.
func TestUnitSeesOnlyNeeds(t *testing.T) {
	groups := []api.Group{group("b", "", "put b 1"), group("c", "", "copy b c")}
	expectUnitFails(t, groups, []int{0, 1}, "b=0", api.ErrBarred)
}

// I1: Names.

func TestNames(t *testing.T) {
	for _, x := range []struct {
		unit []int
		want string
	}{
		{nil, ""}, {[]int{0}, "b"}, {[]int{2}, ""}, {[]int{0, 1, 2, 3, 4}, "b d e f"}, {[]int{1, 2, 4}, "d f"}, {[]int{3, 0}, "e b"},
	} {
		if got := build.Names(chain(), x.unit); !slices.Equal(got, strings.Fields(x.want)) {
			t.Errorf("%v: %q, wanted %q", x.unit, got, x.want)
		}
	}
}

// An index without a group adds nothing, nor does a group without targets.
func TestUnitsThatAreNone(t *testing.T) {
	const least = -1 << 63
	for _, unit := range [][]int{{-1}, {5}, {least}, {1<<63 - 1}, {-1, 5, 100}} {
		expectUnit(t, unit, "a=xy", "", map[string]string{})
		if got := build.Names(chain(), unit); len(got) != 0 {
			t.Errorf("%v: %q", unit, got)
		}
		expectUnit(t, append(unit, 0), "a=xy", "b=yx", map[string]string{"b": "1 1 1 8:turn a b a 2:xy b 2:yx"})
		if got := build.Names(chain(), append(unit, 0)); !slices.Equal(got, []string{"b"}) {
			t.Errorf("%v: %q", unit, got)
		}
	}
	if out, kept, err := build.Unit([]api.Group{{}}, []int{0, 0}, nil); err != nil || len(out) != 0 || len(kept) != 0 {
		t.Error(out, kept, err)
	}
	if got := build.Names([]api.Group{{}}, []int{0}); len(got) != 0 {
		t.Error(got)
	}
}

func TestArgumentsStay(t *testing.T) {
	const words = "a=xy b=1 c=2 d=3 e=4 z=5"
	groups, unit := chain(), []int{0, 1, 2, 3}
	l := append(have(words), api.File{Name: "behind"})[:6]
	for range 2 {
		out, kept, err := build.Unit(groups, unit, l)
		if err != nil || !slices.Equal(out, have("b=yx c=yx d=yz e=xyyz")) {
			t.Fatal(out, err)
		}
		clear(out)
		for _, r := range kept {
			clear(r.Cmds)
			clear(r.Needs)
			clear(r.Out)
		}
		build.Names(groups, unit)[0] = "spoilt"
	}
	out, r, _ := build.One(groups[0], l)
	clear(out)
	if !slices.Equal(r.Out, have("b=yx")) {
		t.Error("the files and the record share memory")
	}
	if !reflect.DeepEqual(groups, chain()) || !slices.Equal(unit, []int{0, 1, 2, 3}) || !slices.Equal(l, have(words)) || l[:7][6].Name != "behind" {
		t.Error("an argument was changed")
	}
}

// The layers together.

const source = "%.o : %.c\n\tturn $< $@\nb : x.o y.o\n\tjoin $@ $^\nc d : a b\n\tswap a c x z\n\tcopy b d\nphony all\nall : b c w\nv : u\n\tneed u\n\tcopy u v\nw : v\n\tjoin w v v"

// state is what there is between builds.
type state struct {
	files []api.File
	kept  map[string]api.Record
}

// step builds what is stale, and returns the names of what was built without an error.
func (s *state) step(t *testing.T, goal string) []string {
	t.Helper()
	m, err := makefile.Parse(source)
	if err != nil {
		t.Fatal(err)
	}
	groups, err := graph.Of(m, s.files, goal)
	if err != nil {
		return nil
	}
	var built []string
	for _, unit := range plan.Units(groups, plan.Stale(groups, s.files, s.kept)) {
		out, kept, err := build.Unit(groups, unit, s.files)
		if err != nil {
			continue
		}
		for _, f := range out {
			s.files = files.Put(s.files, f)
		}
		for name, r := range kept {
			back, err := record.Parse(record.Text(r))
			if err != nil || !record.Same(back, r) {
				t.Errorf("%v is read as %v, %v", r, back, err)
			}
			s.kept[name] = back
		}
		built = append(built, build.Names(groups, unit)...)
	}
	return built
}

func expectBuilt(t *testing.T, s *state, goal, want string) {
	t.Helper()
	if got := s.step(t, goal); !slices.Equal(got, strings.Fields(want)) {
		t.Errorf("%s: %q, wanted %q", goal, got, want)
	}
}

func TestBuildAgain(t *testing.T) {
	s := &state{have("a=xy u=1 x.c=ab y.c=cd"), map[string]api.Record{}}
	put := func(name, text string) { s.files = files.Put(s.files, api.File{Name: name, Text: text}) }
	expectBuilt(t, s, "b", "x.o y.o b")
	expectBuilt(t, s, "b", "")
	expectBuilt(t, s, "all", "c v w")
	if want := have("a=xy b=badc c=zy d=badc u=1 v=1 w=11 x.c=ab x.o=ba y.c=cd y.o=dc"); !slices.Equal(s.files, want) {
		t.Error(s.files)
	}
	expectBuilt(t, s, "all", "")
	put("u", "2")
	expectBuilt(t, s, "b", "")
	expectBuilt(t, s, "all", "v w")
	put("x.c", "q")
	put("other", "1")
	expectBuilt(t, s, "c", "x.o b c")
	put("d", "hay")
	expectBuilt(t, s, "all", "c")
	put("u", "")
	expectBuilt(t, s, "w", "")
	put("a", "x")
	// One unit by way of all: it fails as a whole.
	expectBuilt(t, s, "all", "")
	expectBuilt(t, s, "c", "c")
	if want := have("a=x b=qdc c=z d=qdc other=1 u= v=2 w=22 x.c=q x.o=q y.c=cd y.o=dc"); !slices.Equal(s.files, want) {
		t.Error(s.files)
	}
}

// After each of many changes, a build gives what a build from scratch gives, and
// another one builds nothing.
func TestBuildEqualsBuildFromScratch(t *testing.T) {
	given := []string{"a", "u", "x.c", "y.c"}
	all := []string{"a", "b", "c", "d", "u", "v", "w", "x.c", "x.o", "y.c", "y.o"}
	s := &state{have("a=xy u=1 x.c=ab y.c=cd"), map[string]api.Record{}}
	seed := uint32(1)
	next := func(n int) int {
		seed = seed*1664525 + 1013904223
		return int(seed>>16) % n
	}
	for range 2000 {
		name := all[next(len(all))]
		if next(4) == 0 && !slices.Contains(given, name) {
			s.files = files.Drop(s.files, name)
		} else {
			s.files = files.Put(s.files, api.File{Name: name, Text: strconv.Itoa(next(3) + 1)})
		}
		goal := []string{"b", "c", "w", "all"}[next(4)]
		s.step(t, goal)
		expectBuilt(t, s, goal, "")
		scratch := &state{nil, map[string]api.Record{}}
		for _, name := range given {
			text, _ := files.Get(s.files, name)
			scratch.files = files.Put(scratch.files, api.File{Name: name, Text: text})
		}
		scratch.step(t, goal)
		for _, f := range scratch.files {
			if text, found := files.Get(s.files, f.Name); text != f.Text || !found {
				t.Fatalf("%s: %v, from scratch %v", goal, s.files, scratch.files)
			}
		}
	}
}

package plan_test

import (
	"reflect"
	"slices"
	"strings"
	"testing"

	"hammerpond/api"
	"hammerpond/files"
	"hammerpond/graph"
	"hammerpond/makefile"
	"hammerpond/plan"
	"hammerpond/record"
)

func group(targets, needs string, cmds ...string) api.Group {
	return api.Group{Targets: strings.Fields(targets), Needs: strings.Fields(needs), Cmds: cmds}
}

func phony(targets, needs string) api.Group {
	return api.Group{Targets: strings.Fields(targets), Needs: strings.Fields(needs), Phony: true}
}

// have returns sorted files from words of the form name=text.
func have(words string) []api.File {
	var l []api.File
	for _, word := range strings.Fields(words) {
		name, text, _ := strings.Cut(word, "=")
		l = files.Put(l, api.File{Name: name, Text: text})
	}
	return l
}

// kept returns records of groups as if they had just made what the files are.
func kept(groups []api.Group, l []api.File) map[string]api.Record {
	m := map[string]api.Record{}
	for _, g := range groups {
		var out []api.File
		for _, target := range g.Targets {
			if text, found := files.Get(l, target); found {
				out = files.Put(out, api.File{Name: target, Text: text})
			}
		}
		if !g.Phony {
			m[g.Targets[0]] = record.Of(g, l, out)
		}
	}
	return m
}

// shown returns which of the groups are stale, by their first targets.
func shown(groups []api.Group, stale []bool) string {
	var names []string
	for i, is := range stale {
		if is {
			names = append(names, groups[i].Targets[0])
		}
	}
	return strings.Join(names, " ")
}

func expectStale(t *testing.T, groups []api.Group, l []api.File, kept map[string]api.Record, want string) {
	t.Helper()
	stale := plan.Stale(groups, l, kept)
	if len(stale) != len(groups) || shown(groups, stale) != want {
		t.Errorf("%v with %v: %q (%v), wanted %q", groups, l, shown(groups, stale), stale, want)
	}
}

// H1.

func TestFind(t *testing.T) {
	r := api.Record{Cmds: []string{"x"}, Needs: have("a=q"), Out: have("b=q c=r")}
	m := map[string]api.Record{"b": r, "e": {}, "": r}
	for _, g := range []api.Group{group("b", "a"), group("b c", ""), phony("b", "")} {
		if got, found := plan.Find(m, g); !found || !reflect.DeepEqual(got, r) {
			t.Errorf("%v: %v, %v", g, got, found)
		}
	}
	if got, found := plan.Find(m, group("e", "")); !found || !record.Same(got, api.Record{}) {
		t.Error(got, found)
	}
	for _, g := range []api.Group{group("c", "b"), group("c b", "b"), group("a", ""), {}, {Needs: []string{"b"}}} {
		if got, found := plan.Find(m, g); found || !reflect.DeepEqual(got, api.Record{}) {
			t.Errorf("%v: %v, %v", g, got, found)
		}
	}
	if _, found := plan.Find(nil, group("b", "")); found {
		t.Error("found in nothing")
	}
}

func TestFindReturnsACopy(t *testing.T) {
	m := map[string]api.Record{"b": {Cmds: []string{"x"}, Needs: have("a=q"), Out: have("b=q")}}
	r, _ := plan.Find(m, group("b", ""))
	r.Cmds[0], r.Needs[0].Text, r.Out[0].Text = "spoilt", "spoilt", "spoilt"
	if !record.Same(m["b"], api.Record{Cmds: []string{"x"}, Needs: have("a=q"), Out: have("b=q")}) {
		t.Error(m)
	}
}

func TestFresh(t *testing.T) {
	groups := []api.Group{group("c b", "d a", "one", "two")}
	l := have("a=1 b=2 c=3 d=4 z=5")
	m := kept(groups, l)
	expectStale(t, groups, l, m, "")
	expectStale(t, groups, have("a=1 b=2 c=3 d=4"), m, "")
	expectStale(t, groups, have("a=1 b=2 c=3 d=4 e=6 z=7"), m, "")
}

func TestNotFresh(t *testing.T) {
	groups := []api.Group{group("c b", "d a", "one", "two")}
	l := have("a=1 b=2 c=3 d=4")
	m := kept(groups, l)
	for _, other := range []string{
		"a=2 b=2 c=3 d=4", "a=1 b=3 c=3 d=4", "a=1 b=2 c=2 d=4", "a=1 b=2 c=3 d=5", "a= b=2 c=3 d=4",
		"b=2 c=3 d=4", "a=1 c=3 d=4", "a=1 b=2 d=4", "a=1 b=2 c=3", "a=4 b=2 c=3 d=1", "a=1 b=3 c=2 d=4", "",
	} {
		expectStale(t, groups, have(other), m, "c")
	}
	for _, other := range []api.Group{
		group("c b", "d a", "one"), group("c b", "d a", "two", "one"), group("c b", "d a", "one", "two", ""), group("c b", "d a"),
		group("c b", "a d", "one", "two"), group("c b", "d", "one", "two"), group("c b", "d a b", "one", "two"),
		group("c", "d a", "one", "two"), group("c d", "d a", "one", "two"),
	} {
		expectStale(t, []api.Group{other}, l, m, "c")
	}
	expectStale(t, groups, l, nil, "c")
	expectStale(t, groups, l, map[string]api.Record{"b": m["c"]}, "c")
	expectStale(t, groups, l, map[string]api.Record{"c": {}}, "c")
}

// The order of targets does not matter, but that of needs does.
func TestFreshWithTargetsInAnotherOrder(t *testing.T) {
	l := have("a=1 b=2 c=3")
	r := record.Of(group("b c", "a", "one"), l, have("b=2 c=3"))
	expectStale(t, []api.Group{group("c b", "a", "one")}, l, map[string]api.Record{"c": r}, "")
	expectStale(t, []api.Group{group("b c", "a", "one")}, l, map[string]api.Record{"b": r}, "")
}

// A record without any target that is a file is not enough.
func TestFreshNeedsItsTargets(t *testing.T) {
	g := group("b", "a", "one")
	m := map[string]api.Record{"b": record.Of(g, have("a=1"), nil)}
	expectStale(t, []api.Group{g}, have("a=1"), m, "b")
	expectStale(t, []api.Group{g}, have("a=1 b=2"), m, "b")
}

// A need that is not a file is in no record.
func TestFreshWithoutANeed(t *testing.T) {
	groups := []api.Group{phony("all", ""), group("b", "all a", "one")}
	l := have("a=1 b=2")
	m := kept(groups, l)
	expectStale(t, groups, l, m, "")
	expectStale(t, groups, have("a=1 all=3 b=2"), m, "b")
}

func chain() []api.Group {
	return []api.Group{
		group("b", "a", "copy a b"),
		group("c d", "b", "copy b c", "copy b d"),
		group("e", "a", "copy a e"),
		group("f", "d e", "join f d e"),
		phony("all", "f c"),
	}
}

func TestStaleByNeeds(t *testing.T) {
	groups := chain()
	l := have("a=1 b=1 c=1 d=1 e=1 f=11")
	m := kept(groups, l)
	expectStale(t, groups, l, m, "")
	expectStale(t, groups, l, nil, "b c e f all")
	expectStale(t, groups, have("a=2 b=1 c=1 d=1 e=1 f=11"), m, "b c e f all")
	expectStale(t, groups, have("a=1 b=1 c=1 d=1 e=1 f=12"), m, "f all")
	expectStale(t, groups, have("a=1 b=1 c=1 d=1 f=11"), m, "e f all")
	expectStale(t, groups, have("a=1 b=1 c=2 d=1 e=1 f=11"), m, "c f all")
	// All that is behind a stale group is stale, even where the records still agree.
	delete(m, "b")
	expectStale(t, groups, l, m, "b c f all")
}

func TestStaleOfPhony(t *testing.T) {
	groups := []api.Group{phony("all", "a"), group("b", "a", "one"), phony("more x", "all b"), group("c", "x", "two"), phony("top", "c")}
	l := have("a=1 b=2 c=3")
	m := kept(groups, l)
	expectStale(t, groups, l, m, "")
	expectStale(t, groups, have("a=2 b=2 c=3"), m, "b more c top")
	expectStale(t, groups, have("a=1 b=2 c=4"), m, "c top")
	expectStale(t, groups[:1], nil, nil, "")
}

// A group that is made later does not count.
func TestStaleByEarlierGroupsOnly(t *testing.T) {
	groups := []api.Group{phony("all", "b"), group("b", "a", "one")}
	expectStale(t, groups, have("a=1"), nil, "b")
}

func TestStaleOfNothing(t *testing.T) {
	if stale := plan.Stale(nil, have("a=1"), map[string]api.Record{"a": {}}); len(stale) != 0 {
		t.Error(stale)
	}
}

// H2.

// flags returns a boolean for each group: whether its first target is among names.
func flags(groups []api.Group, names string) []bool {
	var l []bool
	for _, g := range groups {
		l = append(l, slices.Contains(strings.Fields(names), g.Targets[0]))
	}
	return l
}

func expectUnits(t *testing.T, groups []api.Group, stale string, want ...[]int) {
	t.Helper()
	units := plan.Units(groups, flags(groups, stale))
	if !slices.EqualFunc(units, want, func(a, b []int) bool { return slices.Equal(a, b) }) {
		t.Errorf("%q: %v, wanted %v", stale, units, want)
	}
}

func TestUnits(t *testing.T) {
	groups := chain()
	expectUnits(t, groups, "")
	expectUnits(t, groups, "b", []int{0})
	expectUnits(t, groups, "b e", []int{0}, []int{2})
	expectUnits(t, groups, "b f", []int{0}, []int{3})
	expectUnits(t, groups, "b c", []int{0, 1})
	expectUnits(t, groups, "b e f", []int{0}, []int{2, 3})
	expectUnits(t, groups, "b c e", []int{0, 1}, []int{2})
	expectUnits(t, groups, "c e f", []int{1, 2, 3})
	expectUnits(t, groups, "b c e f", []int{0, 1, 2, 3})
	expectUnits(t, groups, "b c e f all", []int{0, 1, 2, 3, 4})
	expectUnits(t, groups, "all")
	expectUnits(t, groups, "b all", []int{0})
	expectUnits(t, groups, "b e all", []int{0}, []int{2})
	expectUnits(t, groups, "c e all", []int{1, 4}, []int{2})
}

// That two groups need the same file, or the same group that is not stale, connects nothing.
func TestUnitsThatNeedTheSame(t *testing.T) {
	groups := []api.Group{group("b", "a"), group("c", "a b"), group("d", "a b")}
	expectUnits(t, groups, "c d", []int{1}, []int{2})
	expectUnits(t, groups, "b c d", []int{0, 1, 2})
}

// Classes that overlap are sorted by their first indices.
func TestUnitsThatOverlap(t *testing.T) {
	groups := []api.Group{group("a", ""), group("b", ""), group("c", ""), group("d", "b"), group("e", "a"), group("f", "c"), group("g", "d"), phony("h", "e f")}
	expectUnits(t, groups, "a b c d e f g", []int{0, 4}, []int{1, 3, 6}, []int{2, 5})
	expectUnits(t, groups, "a b c d e f g h", []int{0, 2, 4, 5, 7}, []int{1, 3, 6})
	expectUnits(t, groups, "b c e f g h", []int{1}, []int{2, 4, 5, 7}, []int{6})
}

func TestUnitsOfPhony(t *testing.T) {
	groups := []api.Group{phony("x", ""), phony("y z", "x"), group("b", "z"), phony("top", "b y"), phony("more", "x")}
	expectUnits(t, groups, "x")
	expectUnits(t, groups, "x y")
	expectUnits(t, groups, "x y top more")
	expectUnits(t, groups, "b top", []int{2, 3})
	expectUnits(t, groups, "y b", []int{1, 2})
	expectUnits(t, groups, "x b more", []int{2})
	expectUnits(t, groups, "x y b top more", []int{0, 1, 2, 3, 4})
}

// together reports for each pair of stale groups whether they belong together,
// by the words of the document: until nothing changes.
func together(groups []api.Group, stale []bool) map[[2]int]bool {
	m := map[[2]int]bool{}
	for i := range groups {
		for j := range groups {
			needs := slices.ContainsFunc(groups[i].Needs, func(need string) bool { return slices.Contains(groups[j].Targets, need) })
			if stale[i] && stale[j] && needs {
				m[[2]int{i, j}], m[[2]int{j, i}] = true, true
			}
		}
	}
	for range groups {
		for i := range groups {
			for j := range groups {
				for k := range groups {
					if m[[2]int{i, j}] && m[[2]int{j, k}] {
						m[[2]int{i, k}] = true
					}
				}
			}
		}
	}
	return m
}

func TestUnitsOfAllSets(t *testing.T) {
	const source = "b : a\n\tfail\nc d : b\n\tfail\ne : a\n\tfail\nphony p\np : e d\nf : p\n\tfail\ng : a e\n\tfail\nphony all\nall : f g h\n%h : a\n\tfail\nh : ah bh\n\tfail"
	m, err := makefile.Parse(source)
	if err != nil {
		t.Fatal(err)
	}
	groups, err := graph.Of(m, have("a=1"), "all")
	if err != nil || len(groups) != 10 {
		t.Fatal(groups, err)
	}
	for set := range 1 << len(groups) {
		stale := make([]bool, len(groups))
		for i := range stale {
			stale[i] = set>>i&1 == 1
		}
		pairs := together(groups, stale)
		var want [][]int
		seen := map[int]bool{}
		for i := range groups {
			if !stale[i] || seen[i] {
				continue
			}
			unit, real := []int{}, false
			for j := range groups {
				if i == j || pairs[[2]int{i, j}] {
					unit, seen[j] = append(unit, j), true
					real = real || !groups[j].Phony
				}
			}
			if real {
				want = append(want, unit)
			}
		}
		if got := plan.Units(groups, stale); !slices.EqualFunc(got, want, func(a, b []int) bool { return slices.Equal(a, b) }) {
			t.Fatalf("%v: %v, wanted %v", stale, got, want)
		}
	}
}

func TestUnitsOfNothing(t *testing.T) {
	if units := plan.Units(nil, nil); len(units) != 0 {
		t.Error(units)
	}
	if units := plan.Units(chain(), make([]bool, 5)); len(units) != 0 {
		t.Error(units)
	}
}

// Units do not share memory: one may be appended to.
func TestUnitsAreSeparate(t *testing.T) {
	groups := chain()
	units := plan.Units(groups, flags(groups, "b c e"))
	for _, unit := range units {
		_ = append(unit, 99)
	}
	if len(units) != 2 || !slices.Equal(units[0], []int{0, 1}) || !slices.Equal(units[1], []int{2}) {
		t.Error(units)
	}
}

func TestArgumentsStay(t *testing.T) {
	groups, l := chain(), have("a=1 b=1 c=1 d=1 e=1 f=11")
	m := kept(groups, l)
	delete(m, "b")
	stale := plan.Stale(groups, l, m)
	before := slices.Clone(stale)
	plan.Units(groups, stale)
	want := kept(chain(), l)
	delete(want, "b")
	if !reflect.DeepEqual(groups, chain()) || !slices.Equal(l, have("a=1 b=1 c=1 d=1 e=1 f=11")) || !reflect.DeepEqual(m, want) || !slices.Equal(stale, before) {
		t.Error("an argument was changed")
	}
}

// Nothing is specified for these, but every call ends.
func TestOtherGroups(t *testing.T) {
	groups := []api.Group{{}, group("b b", "b b", "x"), {Needs: []string{"b", ""}}, phony("", "b"), group("c", "d"), group("d", "c")}
	for _, l := range [][]api.File{nil, {{Name: "b"}, {Name: "a"}, {Name: "b"}}} {
		if stale := plan.Stale(groups, l, map[string]api.Record{"": {}, "b": {}}); len(stale) != len(groups) {
			t.Error(stale)
		}
	}
	for _, stale := range [][]bool{nil, {true}, {true, true, true, true, true, true}, {false, true, false, true, false, true, true, true}} {
		plan.Units(groups, stale)
		plan.Units(nil, stale)
	}
}

package graph_test

import (
	"reflect"
	"slices"
	"strconv"
	"strings"
	"testing"

	"hammerpond/api"
	"hammerpond/graph"
	"hammerpond/makefile"
)

func parsed(t *testing.T, source string) api.Make {
	t.Helper()
	m, err := makefile.Parse(source)
	if err != nil {
		t.Fatalf("%q: %v", source, err)
	}
	return m
}

// have returns files with these names, sorted.
func have(names ...string) []api.File {
	slices.Sort(names)
	var l []api.File
	for _, name := range names {
		l = append(l, api.File{Name: name, Text: "text of " + name})
	}
	return l
}

// shown returns a group as targets:needs:commands, with a ! before it if it is phony.
func shown(g api.Group) string {
	s := strings.Join(g.Targets, " ") + ":" + strings.Join(g.Needs, " ") + ":" + strings.Join(g.Cmds, ";")
	if g.Phony {
		return "!" + s
	}
	return s
}

func expectGroups(t *testing.T, source string, l []api.File, goal string, want ...string) {
	t.Helper()
	groups, err := graph.Of(parsed(t, source), l, goal)
	var got []string
	for _, g := range groups {
		got = append(got, shown(g))
	}
	if err != nil || !slices.Equal(got, want) {
		t.Errorf("%q, %q: %q, %v, wanted %q", source, goal, got, err, want)
	}
}

func expectError(t *testing.T, source string, l []api.File, goal string, want error) {
	t.Helper()
	groups, err := graph.Of(parsed(t, source), l, goal)
	if err != want || len(groups) != 0 {
		t.Errorf("%q, %q: %v, %v, wanted %v", source, goal, groups, err, want)
	}
}

// F1: the group of a name.

func TestGroupOfARule(t *testing.T) {
	expectGroups(t, "b : a\n\tcopy a b", have("a"), "b", "b:a:copy a b")
	expectGroups(t, "b :\n\tput b x", nil, "b", "b::put b x")
	expectGroups(t, "b c : a d\n\tcopy a b\n\tcopy d c\n\tneed b", have("a", "d"), "b", "b c:a d:copy a b;copy d c;need b")
	expectGroups(t, "b c : a\n\tcopy a b\n\tcopy a c", have("a"), "c", "b c:a:copy a b;copy a c")
	// That a target exists as a file makes no difference.
	expectGroups(t, "b : a\n\tcopy a b", have("a", "b"), "b", "b:a:copy a b")
}

func TestCommandsOfARule(t *testing.T) {
	expectGroups(t, "b c : a d e\n\t$@ $< $^ [$*]\n\t$$@$x$", have("a", "d", "e"), "c", "b c:a d e:b a a d e [];$b$x$")
	expectGroups(t, "b :\n\t[$<] [$^] [$*]", nil, "b", "b::[] [] []")
}

func TestGroupOfAPhonyName(t *testing.T) {
	const source = "phony all\nall c : a b\nb : a\n\tcopy $< $@\nphony none\nnone :"
	expectGroups(t, source, have("a"), "all", "b:a:copy a b", "!all c:a b:")
	expectGroups(t, source, have("a", "all"), "all", "b:a:copy a b", "!all c:a b:")
	expectGroups(t, source, have("a"), "c", "b:a:copy a b", "!all c:a b:")
	expectGroups(t, source, have("a"), "none", "!none::")
	expectGroups(t, source, have("a"), "b", "b:a:copy a b")
}

func TestGroupOfAPattern(t *testing.T) {
	const source = "%.o : %.c a\n\tjoin $@ $^\n\tput $@ $*.$<"
	expectGroups(t, source, have("a", "x.c"), "x.o", "x.o:x.c a:join x.o x.c a;put x.o x.x.c")
	expectGroups(t, source, have("a", "x.y.c"), "x.y.o", "x.y.o:x.y.c a:join x.y.o x.y.c a;put x.y.o x.y.x.y.c")
	expectGroups(t, "% :\n\tput $@ $*", nil, "b", "b::put b b")
	expectGroups(t, "a%z : %\n\tcopy $< $@", have("b"), "abz", "abz:b:copy b abz")
	expectGroups(t, "a% : x%y\n\tcopy $< $@", have("x.0y"), "a.0", "a.0:x.0y:copy x.0y a.0")
}

// A rule that has the name itself counts before every pattern, wherever it is.
func TestGroupOfARuleBeforePatterns(t *testing.T) {
	const source = "%.o : %.c\n\tturn $< $@\nz x.o : a\n\tcopy $< $@\n\tcopy $< z"
	expectGroups(t, source, have("a", "x.c"), "x.o", "z x.o:a:copy a z;copy a z")
	expectGroups(t, source, have("a", "y.c"), "y.o", "y.o:y.c:turn y.c y.o")
}

func TestGroupOfTheFirstPatternThatApplies(t *testing.T) {
	const source = "%.o : %.c\n\tone\n%.p : %.c\n\ttwo\nx%o : %d\n\tthree\n%o : a\n\tfour"
	expectGroups(t, source, have("a", "x.c", ".d"), "x.o", "x.o:x.c:one")
	expectGroups(t, source, have("a", ".d"), "x.o", "x.o:.d:three")
	expectGroups(t, source, have("a"), "x.o", "x.o:a:four")
	expectError(t, source, nil, "x.o", api.ErrNone)
}

// All needs must be there; a pattern that could make one does not count.
func TestNeedsOfAPattern(t *testing.T) {
	const source = "%.o : %.c a %.h\n\tjoin $@ $^\nx.c : b\n\tcopy $< $@\ny.c a : b\n\tcopy $< y.c\n\tcopy $< a\n%.h : %.g\n\tcopy $< $@"
	expectGroups(t, source, have("b", "x.h"), "x.o", "x.c:b:copy b x.c", "y.c a:b:copy b y.c;copy b a", "x.o:x.c a x.h:join x.o x.c a x.h")
	expectGroups(t, source, have("b", "y.h"), "y.o", "y.c a:b:copy b y.c;copy b a", "y.o:y.c a y.h:join y.o y.c a y.h")
	expectError(t, source, have("b", "x.g"), "x.o", api.ErrNone)
	expectError(t, source, have("b", "z.h"), "z.o", api.ErrNone)
	// A file that a pattern needs may itself be made by a pattern.
	expectGroups(t, source, have("b", "y.g", "y.h"), "y.o", "y.c a:b:copy b y.c;copy b a", "y.h:y.g:copy y.g y.h", "y.o:y.c a y.h:join y.o y.c a y.h")
	// The target of a rule counts as a need even if the rule cannot be built.
	expectError(t, source, have("x.h"), "x.o", api.ErrNone)
	// So does a phony name.
	expectGroups(t, "phony all\nall : a\n%.o : all\n\tput $@ x", have("a"), "x.o", "!all:a:", "x.o:all:put x.o x")
}

// A file to which no pattern applies is not made.
func TestFilesWithoutAGroup(t *testing.T) {
	const source = "%.o : %.c\n\tturn $< $@\nb : x.o\n\tcopy $< $@"
	expectGroups(t, source, have("x.o"), "x.o")
	expectGroups(t, source, have("x.o"), "b", "b:x.o:copy x.o b")
	expectGroups(t, source, have(".c", "x.o"), "b", "b:x.o:copy x.o b")
	expectGroups(t, "%b : a\n\tfail", have("b"), "b")
	expectGroups(t, "", have("a"), "a")
}

// Needs of a pattern may coincide once the stem is in place.
func TestNeedsThatCoincide(t *testing.T) {
	expectGroups(t, "%b : a %\n\tjoin $@ $^", have("a"), "ab", "ab:a a:join ab a a")
	expectError(t, "a% : %a\n\tcopy $< $@", have("aa"), "aa", api.ErrRound)
	expectError(t, "a% : %a\n\tcopy $< $@", nil, "aa", api.ErrNone)
}

// F2: the order of groups.

func TestOrder(t *testing.T) {
	const source = "e : d c\n\tjoin $@ $^\nd : b c\n\tjoin $@ $^\nc : a b\n\tjoin $@ $^\nb : a\n\tcopy $< $@\nf : a\n\tfail"
	b, c, d, e := "b:a:copy a b", "c:a b:join c a b", "d:b c:join d b c", "e:d c:join e d c"
	expectGroups(t, source, have("a"), "e", b, c, d, e)
	expectGroups(t, source, have("a"), "c", b, c)
	expectGroups(t, source, have("a"), "b", b)
	expectGroups(t, source, have("a", "b", "c", "d", "e", "f"), "e", b, c, d, e)
	expectGroups(t, source, have("a"), "a")
}

// Needs are visited in their order, and a group that makes two of them appears once.
func TestOrderOfNeeds(t *testing.T) {
	const source = "b : d c\n\tjoin $@ $^\nc d : a\n\tfail\ne : f c\n\tfail\nf :\n\tfail\ng : c f\n\tfail"
	expectGroups(t, source, have("a"), "b", "c d:a:fail", "b:d c:join b d c")
	expectGroups(t, source, have("a"), "e", "f::fail", "c d:a:fail", "e:f c:fail")
	expectGroups(t, source, have("a"), "g", "c d:a:fail", "f::fail", "g:c f:fail")
}

func TestGoalsThatAreNoNames(t *testing.T) {
	for _, goal := range []string{"", " ", "B", "0a", ".a", "ninebytes", "%", "%.o", "b ", "b:", "$@", "\xff", "b\n", strings.Repeat("b", 1000)} {
		expectError(t, "%.o : a\n\tfail\nb : b0\n\tfail", append(have("b"), api.File{Name: goal}), goal, api.ErrShape)
	}
}

func TestWhatIsMissing(t *testing.T) {
	const source = "b : a\n\tcopy $< $@\nc : b d\n\tjoin $@ $^"
	expectError(t, source, have("a"), "none", api.ErrNone)
	expectError(t, source, have("b"), "b", api.ErrNone)
	expectError(t, source, have("a"), "c", api.ErrNone)
	expectError(t, source, have("d"), "c", api.ErrNone)
	expectError(t, "", nil, "a", api.ErrNone)
}

func TestWhatNeedsItself(t *testing.T) {
	expectError(t, "b : c\n\tfail\nc : b\n\tfail", nil, "b", api.ErrRound)
	expectError(t, "b : c\n\tfail\nc : d\n\tfail\nd : e\n\tfail\ne : c\n\tfail", nil, "b", api.ErrRound)
	// Files do not help.
	expectError(t, "b : c\n\tfail\nc : b\n\tfail", have("b", "c"), "b", api.ErrRound)
	// The other target of the group that is being visited.
	expectError(t, "b c : d\n\tfail\nd : c\n\tfail", nil, "b", api.ErrRound)
	expectError(t, "b c : d\n\tfail\nd : b\n\tfail", nil, "c", api.ErrRound)
	expectError(t, "b c : d\n\tfail\ne d : c\n\tfail", nil, "b", api.ErrRound)
	expectError(t, "phony all\nall : b\nb : all\n\tfail", nil, "all", api.ErrRound)
	expectError(t, "%.o : %.c\n\tfail\n%.c : %.o\n\tfail", have("x.c", "x.o"), "x.o", api.ErrRound)
	expectError(t, "%.o : %.c\n\tfail\nx.c : x.o\n\tfail", nil, "x.o", api.ErrRound)
	// Nothing else of the description matters.
	expectGroups(t, "b : c\n\tfail\nc : b\n\tfail\nd : a\n\tfail", have("a"), "d", "d:a:fail")
}

// What is met first counts: needs are visited before later ones, and deeper ones first.
func TestErrorsInOrder(t *testing.T) {
	expectError(t, "b : none c\n\tfail\nc : b\n\tfail", nil, "b", api.ErrNone)
	expectError(t, "b : c none\n\tfail\nc : b\n\tfail", nil, "b", api.ErrRound)
	expectError(t, "b : c\n\tfail\nc : none b\n\tfail", nil, "b", api.ErrNone)
	expectError(t, "b : c\n\tfail\nc : b none\n\tfail", nil, "b", api.ErrRound)
}

// chain returns n names and a pattern by which each of them needs the one before it.
func chain(n int) (string, []api.File) {
	var names []string
	for i := range n + 1 {
		names = append(names, strings.Repeat("x", i+1))
	}
	return "x% : %\n\tcopy $< $@", have(names...)
}

func TestNumberOfGroups(t *testing.T) {
	// A goal has at most MaxName bytes, so that only some more groups come from a chain.
	const some = 6
	source, l := chain(some)
	last := l[some].Name
	for n := range 5 {
		source, need := source, last
		for i := range n {
			name := "b" + strconv.Itoa(i)
			source += "\n" + name + " : " + need + "\n\tfail"
			need = name
		}
		groups, err := graph.Of(parsed(t, source), l, need)
		if some+n <= api.MaxGroups && (err != nil || len(groups) != some+n) {
			t.Errorf("%d groups: %v, %v", some+n, groups, err)
		}
		if some+n > api.MaxGroups && (err != api.ErrMany || len(groups) != 0) {
			t.Errorf("%d groups: %v, %v", some+n, groups, err)
		}
	}
}

// tenAndMore returns a description whose goal g needs ten groups, and then more.
func tenAndMore(more string) (string, []api.File) {
	source, l := chain(6)
	return source + "\nc : xxxxxxx\n\tfail\nd : c\n\tfail\ne : d\n\tfail\nf : e\n\tfail\ng : f " + more, l
}

// Errors of what is visited before the eleventh group is appended count before ErrMany.
func TestNumberOfGroupsAfterOtherErrors(t *testing.T) {
	for more, want := range map[string]error{
		"\n\tfail":                        api.ErrMany,
		"x\n\tfail":                       api.ErrMany,
		"none\n\tfail":                    api.ErrNone,
		"h\n\tfail\nh : none\n\tfail":     api.ErrNone,
		"h\n\tfail\nh : g\n\tfail":        api.ErrRound,
		"h none\n\tfail\nh : x\n\tfail":   api.ErrMany,
		"none h\n\tfail\nh : x\n\tfail":   api.ErrNone,
		"h\n\tfail\nphony h\nh :\n":       api.ErrMany,
		"\nphony g":                       api.ErrMany,
		"h\n\tfail\nh i : x none\n\tfail": api.ErrNone,
		"x d\n\tfail\nh : none\n\tfail":   api.ErrMany,
	} {
		source, l := tenAndMore(more)
		expectError(t, source, l, "g", want)
		if groups, err := graph.Of(parsed(t, source), l, "f"); err != nil || len(groups) != api.MaxGroups {
			t.Errorf("%q: %d groups, %v", source, len(groups), err)
		}
	}
}

// Names of files may be longer than those of goals; a long chain is followed to its end.
func TestLongChain(t *testing.T) {
	source, l := chain(3000)
	long := l[3000].Name
	m := parsed(t, source)
	m.Rules = append(m.Rules, api.Rule{Targets: []string{"b"}, Needs: []string{long}, Cmds: []string{"fail"}})
	if groups, err := graph.Of(m, l, "b"); err != api.ErrMany || len(groups) != 0 {
		t.Errorf("%d groups, %v", len(groups), err)
	}
}

// Many paths lead to a group that many others need.
func TestManyPaths(t *testing.T) {
	source := "b0 : a\n\tfail\nc0 : a\n\tfail"
	for i := range 4 {
		for _, x := range []string{"b", "c"} {
			source += "\n" + x + strconv.Itoa(i+1) + " : b" + strconv.Itoa(i) + " c" + strconv.Itoa(i) + "\n\tfail"
		}
	}
	groups, err := graph.Of(parsed(t, source), have("a"), "b4")
	if err != nil || len(groups) != 9 {
		t.Fatal(groups, err)
	}
	for i, g := range groups {
		for _, need := range g.Needs {
			if at := graph.Maker(groups, need); at >= i || at < 0 && need != "a" {
				t.Errorf("%v: %q is made by %d", g, need, at)
			}
		}
	}
}

func TestMaker(t *testing.T) {
	l := []api.Group{
		{Targets: []string{"b"}, Needs: []string{"a"}},
		{Targets: []string{"c", "d"}, Needs: []string{"b", "z"}},
		{},
		{Targets: []string{"d", "e"}, Phony: true},
	}
	for name, want := range map[string]int{"b": 0, "c": 1, "d": 1, "e": 3, "a": -1, "z": -1, "": -1, "cd": -1, "\xff": -1} {
		if got := graph.Maker(l, name); got != want {
			t.Errorf("%q: %d, wanted %d", name, got, want)
		}
	}
	if graph.Maker(nil, "b") != -1 || graph.Maker(l[:1], "c") != -1 {
		t.Error("a name that no group makes")
	}
}

const whole = "%.o : %.c a\n\tturn $< $@\nb d : x.o y.o\n\tjoin b $^\n\tput d x\nphony all\nall : b d"

func TestArgumentsStay(t *testing.T) {
	m, before := parsed(t, whole), parsed(t, whole)
	l := have("a", "x.c", "y.c")
	first, err := graph.Of(m, l, "all")
	if err != nil || len(first) != 4 {
		t.Fatal(first, err)
	}
	second, _ := graph.Of(m, l, "all")
	want := []string{shown(second[0]), shown(second[1]), shown(second[2]), shown(second[3])}
	for _, g := range first {
		for _, names := range [][]string{g.Targets, g.Needs, g.Cmds} {
			for i := range names {
				names[i] = "spoilt"
			}
			_ = append(names, "spoilt")
		}
	}
	if !reflect.DeepEqual(m, before) || !slices.Equal(l, have("a", "x.c", "y.c")) {
		t.Error("an argument was changed")
	}
	for i, g := range second {
		if shown(g) != want[i] {
			t.Errorf("two results share memory: %v", g)
		}
	}
}

// Nothing is specified for these, but every call ends.
func TestOtherDescriptions(t *testing.T) {
	same := []string{"b", "b"}
	for _, m := range []api.Make{
		{Rules: []api.Rule{{}, {Needs: same}, {Cmds: same}}, Phony: same},
		{Rules: []api.Rule{{Targets: same, Needs: same, Cmds: same}}},
		{Rules: []api.Rule{{Targets: []string{"b", "c"}, Needs: []string{"d"}}, {Targets: []string{"d", "b"}, Needs: []string{"c"}}}},
		{Rules: []api.Rule{{Targets: []string{"%"}, Needs: []string{"%%", "%"}}}},
		{Rules: []api.Rule{{Targets: []string{"b"}, Needs: []string{"%"}}, {Targets: []string{"%"}, Needs: []string{"%"}}}},
	} {
		for _, l := range [][]api.File{nil, have("a", "b", "%"), {{Name: "d"}, {Name: "b"}, {Name: "b"}}} {
			for _, goal := range []string{"a", "b", "c", "d"} {
				if groups, err := graph.Of(m, l, goal); err != nil && len(groups) != 0 {
					t.Errorf("%q: %v, %v", goal, groups, err)
				}
			}
		}
	}
}

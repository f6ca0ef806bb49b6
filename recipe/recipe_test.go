package recipe_test

import (
	"slices"
	"strings"
	"testing"

	"hammerpond/api"
	"hammerpond/overlay"
	"hammerpond/recipe"
)

var full = strings.Repeat("z", api.MaxText)

func base() []api.File {
	return []api.File{
		{Name: "a", Text: "xy"},
		{Name: "barred", Text: "b"},
		{Name: "bytes", Text: "\x00é\xff"},
		{Name: "empty"},
		{Name: "full", Text: full},
		{Name: "x.c", Text: "abxxa"},
	}
}

var needs = []string{"a", "bytes", "empty", "full", "missing", "x.c"}

var targets = []string{"o", "p"}

// expectRun runs a command on a new overlay; want are the files that it writes.
func expectRun(t *testing.T, cmd string, wantErr error, want ...api.File) {
	t.Helper()
	o := overlay.New(base(), needs, targets)
	err := recipe.Run(o, cmd)
	if own := o.Own(); err != wantErr || !slices.Equal(own, want) {
		t.Errorf("%q: %q, %v, wanted %q, %v", cmd, own, err, want, wantErr)
	}
}

func TestCommandsThatWrite(t *testing.T) {
	for cmd, text := range map[string]string{
		"put o x":                    "x",
		"put o ":                     "",
		"put o  ":                    " ",
		"put o a c":                  "a c",
		"put o  a  c ":               " a  c ",
		"put o copy a o":             "copy a o",
		"put o \x00\t\n\xff":         "\x00\t\n\xff",
		"put o " + full:              full,
		"copy a o":                   "xy",
		"copy bytes o":               "\x00é\xff",
		"copy empty o":               "",
		"copy full o":                full,
		"turn a o":                   "yx",
		"turn x.c o":                 "axxba",
		"turn bytes o":               "\xff\xa9\xc3\x00",
		"turn empty o":               "",
		"swap x.c o x z":             "abzza",
		"swap x.c o x x":             "abxxa",
		"swap x.c o a b":             "bbxxb",
		"swap x.c o q z":             "abxxa",
		"swap bytes o \xff a":        "\x00éa",
		"swap bytes o \xc3 \xff":     "\x00\xff\xa9\xff",
		"swap bytes o \x00 .":        ".é\xff",
		"swap empty o x z":           "",
		"join o a":                   "xy",
		"join o a x.c":               "xyabxxa",
		"join o x.c a empty x.c":     "abxxaxyabxxa",
		"join o a a a a a a a a a a": strings.Repeat("xy", 10),
		"join o full empty":          full,
		"join o empty full":          full,
		"join o empty empty":         "",
	} {
		expectRun(t, cmd, nil, api.File{Name: "o", Text: text})
	}
}

func TestCommandsThatOnlyLook(t *testing.T) {
	expectRun(t, "need a", nil)
	expectRun(t, "need full", nil)
	expectRun(t, "need empty", api.ErrFail)
	expectRun(t, "need missing", api.ErrNone)
	expectRun(t, "need barred", api.ErrBarred)
	expectRun(t, "need ", api.ErrBarred)
	expectRun(t, "fail", api.ErrFail)
}

func TestErrorsOfReadAndWrite(t *testing.T) {
	for cmd, want := range map[string]error{
		"put a x":                       api.ErrBarred,
		"put  x":                        api.ErrBarred,
		"put o " + full + "z":           api.ErrMany,
		"put o " + full + " ":           api.ErrMany,
		"put a " + full + "z":           api.ErrBarred,
		"copy barred o":                 api.ErrBarred,
		"copy missing o":                api.ErrNone,
		"copy a a":                      api.ErrBarred,
		"copy  o":                       api.ErrBarred,
		"copy a ":                       api.ErrBarred,
		"copy o o":                      api.ErrBarred,
		"copy missing a":                api.ErrNone,
		"turn barred o":                 api.ErrBarred,
		"turn missing o":                api.ErrNone,
		"turn missing a":                api.ErrNone,
		"turn a a":                      api.ErrBarred,
		"swap barred o x z":             api.ErrBarred,
		"swap missing o x z":            api.ErrNone,
		"swap missing a x z":            api.ErrNone,
		"swap a a x z":                  api.ErrBarred,
		"join o a barred":               api.ErrBarred,
		"join o missing barred":         api.ErrNone,
		"join o barred missing":         api.ErrBarred,
		"join o ":                       api.ErrBarred,
		"join o a  a":                   api.ErrBarred,
		"join a x.c":                    api.ErrBarred,
		"join a missing":                api.ErrNone,
		"join o full a":                 api.ErrMany,
		"join o a a a a a a a a a a a":  api.ErrMany,
		"join a full full":              api.ErrBarred,
		"join o full full full missing": api.ErrNone,
		"join o full full full barred":  api.ErrBarred,
	} {
		expectRun(t, cmd, want)
	}
}

func TestOtherCommands(t *testing.T) {
	for _, cmd := range []string{
		"", " ", "  ", "fly", "fly high", " put o x", "Put o x", "put\to x", "putt o x",
		"put", "put ", "put o",
		"copy", "copy a", "copy a o ", "copy a o p", "copy  a o",
		"turn", "turn a", "turn a o ", "turn a o p",
		"swap", "swap a", "swap a o", "swap a o x", "swap a o x z ", "swap a o x z q",
		"swap a o xx z", "swap a o x zz", "swap a o  z", "swap a o x ", "swap a o é z", "swap a o x é",
		"swap barred o xx z",
		"join", "join ", "join o",
		"need", "need a ", "need a x.c",
		"fail ", "fail a", " fail", "failed", "FAIL",
	} {
		expectRun(t, cmd, api.ErrText)
	}
}

func TestRunKeepsWhatWasWritten(t *testing.T) {
	o := overlay.New(base(), needs, targets)
	for _, x := range []struct {
		cmd  string
		want error
	}{
		{"put o x", nil},
		{"join p o a o", nil},
		{"copy barred o", api.ErrBarred},
		{"join o full p", api.ErrMany},
		{"need p", nil},
		{"turn p o", nil},
		{"fly", api.ErrText},
	} {
		if err := recipe.Run(o, x.cmd); err != x.want {
			t.Errorf("%q: %v", x.cmd, err)
		}
	}
	if own := o.Own(); !slices.Equal(own, []api.File{{Name: "o", Text: "xyxx"}, {Name: "p", Text: "xxyx"}}) {
		t.Errorf("%q", own)
	}
}

func TestLongJoin(t *testing.T) {
	long := []api.File{{Name: "a", Text: strings.Repeat("z", 1<<20)}}
	o := overlay.New(long, []string{"a"}, []string{"o"})
	if err := recipe.Run(o, "join o"+strings.Repeat(" a", 1<<20)); err != api.ErrMany {
		t.Error(err)
	}
}

// expectAll runs the commands in cmds, which are separated by semicolons.
func expectAll(t *testing.T, targets []string, cmds string, wantErr error, want ...api.File) {
	t.Helper()
	g := api.Group{Targets: targets, Needs: needs}
	if cmds != "" {
		g.Cmds = strings.Split(cmds, ";")
	}
	l, err := recipe.All(base(), g)
	if err != wantErr || !slices.Equal(l, want) {
		t.Errorf("%q: %q, %v, wanted %q, %v", cmds, l, err, want, wantErr)
	}
}

func TestAll(t *testing.T) {
	one, two := []string{"o"}, []string{"p", "o"}
	expectAll(t, one, "turn a o", nil, api.File{Name: "o", Text: "yx"})
	expectAll(t, one, "put o q;put o r", nil, api.File{Name: "o", Text: "r"})
	expectAll(t, one, "need a;copy a o;swap o o x z;join o o o", nil, api.File{Name: "o", Text: "zyzy"})
	expectAll(t, one, "put o ", nil, api.File{Name: "o"})
	expectAll(t, two, "put p 1;put o 2", nil, api.File{Name: "o", Text: "2"}, api.File{Name: "p", Text: "1"})
	expectAll(t, nil, "", nil)
	expectAll(t, nil, "need a", nil)
}

func TestAllErrors(t *testing.T) {
	one, two := []string{"o"}, []string{"o", "p"}
	expectAll(t, one, "", api.ErrNone)
	expectAll(t, one, "need a", api.ErrNone)
	expectAll(t, two, "put o x", api.ErrNone)
	expectAll(t, two, "put p x;put p y", api.ErrNone)
	expectAll(t, []string{"o", "o"}, "put o x", api.ErrNone)
	expectAll(t, one, "fail;fly", api.ErrFail)
	expectAll(t, one, "fly;fail", api.ErrText)
	expectAll(t, one, "put o x;fail", api.ErrFail)
	expectAll(t, two, "put o x;fly", api.ErrText)
	expectAll(t, one, "put p x", api.ErrBarred)
	expectAll(t, one, "put o ;need o", api.ErrFail)
	expectAll(t, one, "copy o o", api.ErrBarred)
	expectAll(t, one, "need o;put o x", api.ErrBarred)
	expectAll(t, one, ";put o x", api.ErrText)
}

// TestAllSeesOnlyNeeds changes everything that a group does not declare.
func TestAllSeesOnlyNeeds(t *testing.T) {
	other := []api.File{{Name: "a", Text: "xy"}, {Name: "more", Text: "m"}, {Name: "o", Text: "old"}, {Name: "x.c", Text: "new"}}
	for _, cmds := range []string{
		"copy a o", "copy x.c o", "copy barred o", "copy more o", "copy o o", "copy empty o",
		"turn a o;join o o a", "need x.c;put o x", "need more;put o x",
	} {
		g := api.Group{Targets: []string{"o"}, Needs: []string{"a"}, Cmds: strings.Split(cmds, ";")}
		l, err := recipe.All(base(), g)
		m, also := recipe.All(other, g)
		if err != also || !slices.Equal(l, m) {
			t.Errorf("%q: %q, %v, but with other files %q, %v", cmds, l, err, m, also)
		}
	}
}

func TestAllLeavesItsArguments(t *testing.T) {
	l := append(base(), api.File{Name: "behind"})[:len(base())]
	g := api.Group{Targets: []string{"x.c", "a"}, Needs: []string{"x.c", "a"}, Cmds: []string{"put x.c 1", "put a 2"}}
	for range 2 {
		out, err := recipe.All(l, g)
		if err != nil || !slices.Equal(out, []api.File{{Name: "a", Text: "2"}, {Name: "x.c", Text: "1"}}) {
			t.Errorf("%q, %v", out, err)
		}
		clear(out)
	}
	if !slices.Equal(l, base()) || l[:len(l)+1][len(l)].Name != "behind" {
		t.Errorf("the files are %q now", l)
	}
	if !slices.Equal(g.Targets, []string{"x.c", "a"}) || !slices.Equal(g.Needs, []string{"x.c", "a"}) || !slices.Equal(g.Cmds, []string{"put x.c 1", "put a 2"}) {
		t.Errorf("the group is %v now", g)
	}
}

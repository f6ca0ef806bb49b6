package makefile_test

import (
	"reflect"
	"strconv"
	"strings"
	"testing"

	"hammerpond/api"
	"hammerpond/makefile"
)

// copied returns the elements of a list, nil if there are none.
func copied[E any](l []E) []E { return append([]E(nil), l...) }

func rule(targets, needs string, cmds ...string) api.Rule {
	return api.Rule{Targets: copied(strings.Fields(targets)), Needs: copied(strings.Fields(needs)), Cmds: copied(cmds)}
}

// copiedMake returns a copy of a description in which empty lists are nil.
func copiedMake(m api.Make) api.Make {
	out := api.Make{Vars: copied(m.Vars), Phony: copied(m.Phony)}
	for _, r := range m.Rules {
		out.Rules = append(out.Rules, api.Rule{Targets: copied(r.Targets), Needs: copied(r.Needs), Cmds: copied(r.Cmds)})
	}
	return out
}

func expectMake(t *testing.T, s string, want api.Make) {
	t.Helper()
	m, err := makefile.Parse(s)
	if err != nil || !reflect.DeepEqual(copiedMake(m), want) {
		t.Errorf("%q:\n%q, %v, wanted\n%q", s, m, err, want)
	}
}

func expectRule(t *testing.T, s string, want api.Rule) {
	t.Helper()
	expectMake(t, s, api.Make{Rules: []api.Rule{want}})
}

func expectError(t *testing.T, s string, want error) {
	t.Helper()
	m, err := makefile.Parse(s)
	if err != want || !reflect.DeepEqual(copiedMake(m), api.Make{}) {
		t.Errorf("%q: %q, %v, wanted %v", s, m, err, want)
	}
}

// E1: lines.

func TestParseDescription(t *testing.T) {
	source := "# what is made of what\nOBJ = x.o y.o\n%.o : %.c\n\tturn $< $@\nb : $(OBJ)\n\tjoin $@ $^\n\tneed b\n\n" +
		"phony all\nall : b c\nc d : a\n\tswap $< $@ x z\n\tput d \n"
	expectMake(t, source, api.Make{
		Vars: []api.Var{{Name: "OBJ", Text: "x.o y.o"}},
		Rules: []api.Rule{
			rule("%.o", "%.c", "turn $< $@"),
			rule("b", "x.o y.o", "join $@ $^", "need b"),
			rule("all", "b c"),
			rule("c d", "a", "swap $< $@ x z", "put d "),
		},
		Phony: []string{"all"},
	})
}

func TestParseIgnoredLines(t *testing.T) {
	for _, s := range []string{
		"", "\n", "\n\n\n", "#", "# $(", "#\n#\n\n", "##\tx", "#A = x", "#phony a", "#b : a",
	} {
		expectMake(t, s, api.Make{})
	}
	expectRule(t, "\n#\n\nb : a\n\n#x\n\tfail\n\n", rule("b", "a", "fail"))
}

// Nothing but a line feed ends a line, and nothing but # begins an ignored one.
func TestParseLinesThatAreNotIgnored(t *testing.T) {
	for _, s := range []string{" ", "  ", " #", "\r", "\r\n", "x", "\v"} {
		expectError(t, s, api.ErrText)
	}
	expectError(t, "b : a\r\n\tfail", api.ErrShape)
	expectError(t, "b : a # c\n\tfail", api.ErrShape)
}

func TestParseSize(t *testing.T) {
	comment := strings.Repeat("#", api.MaxSource)
	expectMake(t, comment, api.Make{})
	expectError(t, comment+"#", api.ErrMany)
	expectError(t, strings.Repeat("\n", api.MaxSource+1), api.ErrMany)
	expectError(t, "b\n"+comment, api.ErrMany)
	expectError(t, "b\n"+comment[2:], api.ErrText)
	expectError(t, strings.Repeat(comment, 1000), api.ErrMany)
}

// The error of the first line that has one counts, before that of Check.
func TestParseErrorsInOrder(t *testing.T) {
	expectError(t, "b\nB : a", api.ErrText)
	expectError(t, "B : a\nb", api.ErrShape)
	expectError(t, "b : a\nc", api.ErrText)
	expectError(t, "b : a\nb : a\n\t$(A)", api.ErrNone)
	expectError(t, "phony all\nb : a c d e", api.ErrMany)
}

// The kinds of lines are tried in their order, before anything is expanded.
func TestParseKindsOfLines(t *testing.T) {
	expectRule(t, "b : a\n\tA = x", rule("b", "a", "A = x"))
	expectRule(t, "b : a\n\tphony x", rule("b", "a", "phony x"))
	expectRule(t, "b : a\n\t# x", rule("b", "a", "# x"))
	expectError(t, "phony A = x", api.ErrShape)
	expectError(t, "phony : a\n\tfail", api.ErrShape)
	expectError(t, "phony = x", api.ErrShape)
	expectError(t, "b : a = c\n\tfail", api.ErrShape)
	expectError(t, " phony all\nall : a", api.ErrText)
	expectError(t, "phony", api.ErrText)
	expectRule(t, "phony: a\n\tfail", rule("phony", "a", "fail"))

	for text, want := range map[string]error{"#": api.ErrText, "\tfail": api.ErrText, "phony all": api.ErrText, "B = x": api.ErrText, "": api.ErrText} {
		expectError(t, "A = "+text+"\n$(A)", want)
	}
	expectMake(t, "A = phony x\n$(A) : a\n\tfail", api.Make{
		Vars:  []api.Var{{Name: "A", Text: "phony x"}},
		Rules: []api.Rule{rule("phony x", "a", "fail")},
	})
}

// E1: commands.

func TestParseCommands(t *testing.T) {
	for cmd, want := range map[string]string{
		"copy a b":                "copy a b",
		"":                        "",
		" ":                       " ",
		"\tx":                     "\tx",
		"b : a":                   "b : a",
		"\x00\xff":                "\x00\xff",
		"$(A)":                    "one  two",
		"put $@ $(A)$(E).":        "put $@ one  two.",
		"$< $^ $* $":              "$< $^ $* $",
		strings.Repeat("x", 28):   strings.Repeat("x", 28),
		strings.Repeat("$(E)", 9): "",
		"$(A)$(A)$(A)1234":        "one  twoone  twoone  two1234",
	} {
		expectMake(t, "A = one  two\nE = \nb : a\n\t"+cmd, api.Make{
			Vars:  []api.Var{{Name: "A", Text: "one  two"}, {Name: "E", Text: ""}},
			Rules: []api.Rule{rule("b", "a", want)},
		})
	}
}

func TestParseCommandsOfTheLastRule(t *testing.T) {
	expectMake(t, "b : a\n\tone\nc : a\nphony all\nA = x\n\ttwo\n#\n\n\tthree\nall : b\n", api.Make{
		Vars:  []api.Var{{Name: "A", Text: "x"}},
		Rules: []api.Rule{rule("b", "a", "one"), rule("c", "a", "two", "three"), rule("all", "b")},
		Phony: []string{"all"},
	})
}

func TestParseCommandErrors(t *testing.T) {
	long := strings.Repeat("x", api.MaxCmd+1)
	for s, want := range map[string]error{
		"\tfail":                                   api.ErrText,
		"\t":                                       api.ErrText,
		"\t$(A)":                                   api.ErrText,
		"\t" + long:                                api.ErrText,
		"A = x\nphony b\n\tfail\nb : a":            api.ErrText,
		"b : a\n\t$(":                              api.ErrText,
		"b : a\n\t$(a)":                            api.ErrText,
		"b : a\n\t$(A)\nA = x":                     api.ErrNone,
		"A = $(A)\nb : a\n\t$(A)":                  api.ErrDeep,
		"b : a\n\t" + long:                         api.ErrMany,
		"b : a\n\t" + long + "$(A)":                api.ErrNone,
		"b : a\n\tx\n\tx\n\tx\n\tx":                api.ErrMany,
		"b : a\n\tx\n\tx\n\tx\n\t":                 api.ErrMany,
		"b : a\n\tx\n\tx\n\tx\n\t$(A)":             api.ErrNone,
		"b : a\n\tx\n\tx\n\tx\n\t$(":               api.ErrText,
		"A = " + long + "\nb : a\n\t$(A)":          api.ErrMany,
		"A = " + long[14:] + "\nb : a\n\t$(A)$(A)": api.ErrMany,
	} {
		expectError(t, s, want)
	}
	expectRule(t, "b : a\n\tx\n\ty\n\tz", rule("b", "a", "x", "y", "z"))
}

// E1: phony names.

func TestParsePhony(t *testing.T) {
	expectMake(t, "phony z\nall : z\nphony all\nz : a b\n", api.Make{
		Rules: []api.Rule{rule("all", "z"), rule("z", "a b")},
		Phony: []string{"z", "all"},
	})
	expectMake(t, "all :\nphony all", api.Make{Rules: []api.Rule{rule("all", "")}, Phony: []string{"all"}})
}

func TestParsePhonyErrors(t *testing.T) {
	for _, name := range []string{
		"", " ", " all", "all ", "all b", "All", "0a", ".a", "%", "%.o", "a%", "a_b", "ninebytes", "$(A)", "all\r", "all:", "\xff",
	} {
		expectError(t, "A = all\nphony "+name+"\nall : b", api.ErrShape)
	}
	expectError(t, "phony all\nphony all\nall : b", api.ErrShape)
	expectError(t, "phony all\nphony b\nphony all\nall : b\nb : a", api.ErrShape)
}

// E1: variables.

func TestParseVars(t *testing.T) {
	expectMake(t, "A = \nB = x = y\nABCD =  $(NONE) \nA = $(\nB = b : a\nC = \t#", api.Make{Vars: []api.Var{
		{Name: "A"}, {Name: "B", Text: "x = y"}, {Name: "ABCD", Text: " $(NONE) "},
		{Name: "A", Text: "$("}, {Name: "B", Text: "b : a"}, {Name: "C", Text: "\t#"},
	}})
}

func TestParseVarsSoFar(t *testing.T) {
	expectMake(t, "B = $(A)\nA = x\nb : $(B)\n\tput b $(A)\nA = y\n\tput b $(A)\nc : $(B)\n\tput c $(B)", api.Make{
		Vars:  []api.Var{{Name: "B", Text: "$(A)"}, {Name: "A", Text: "x"}, {Name: "A", Text: "y"}},
		Rules: []api.Rule{rule("b", "x", "put b x", "put b y"), rule("c", "y", "put c y")},
	})
}

func TestParseVarErrors(t *testing.T) {
	for _, name := range []string{"", " ", "a", "A ", " A", "A1", "ABCDE", "$(A)", "A B", "b :", "A:"} {
		expectError(t, "A = B\n"+name+" = x", api.ErrShape)
	}
	for _, line := range []string{"A=x", "A =", "A= x", "A =x", "A =\tx"} {
		expectError(t, line, api.ErrText)
	}
	six := strings.Repeat("A = x\n", api.MaxVars)
	expectError(t, six+"A = x", api.ErrMany)
	expectError(t, six+"B = ", api.ErrMany)
	expectError(t, six+"a = x", api.ErrShape)
	if m, err := makefile.Parse(six); err != nil || len(m.Vars) != api.MaxVars {
		t.Error(m, err)
	}
}

// E1: rules.

func TestParseRules(t *testing.T) {
	for line, want := range map[string]api.Rule{
		"b : a":                        rule("b", "a"),
		"b:a":                          rule("b", "a"),
		"b :":                          rule("b", ""),
		"b:":                           rule("b", ""),
		"  b   c  :   a  d  e  ":       rule("b c", "a d e"),
		"b c:":                         rule("b c", ""),
		"x.y.z.0 a1234567 : b7 c...":   rule("x.y.z.0 a1234567", "b7 c..."),
		"%.o : %.c":                    rule("%.o", "%.c"),
		"% :":                          rule("%", ""),
		"% : a b.%":                    rule("%", "a b.%"),
		"a% : %a a a%a":                rule("a%", "%a a a%a"),
		"%2345678 : a%345678 a234567%": rule("%2345678", "a%345678 a234567%"),
	} {
		want.Cmds = []string{"fail"}
		expectRule(t, line+"\n\tfail", want)
	}
}

func TestParseExpandedRules(t *testing.T) {
	vars := []api.Var{{Name: "A", Text: "b"}, {Name: "R", Text: "c $(A) : d"}, {Name: "C", Text: ":"}, {Name: "P", Text: "%"}, {Name: "E", Text: ""}}
	source := "A = b\nR = c $(A) : d\nC = :\nP = %\nE = \n"
	for line, want := range map[string]api.Rule{
		"$(A) : a":           rule("b", "a"),
		"$(A)$(A).o : $(A)":  rule("bb.o", "b"),
		"$(R)":               rule("c b", "d"),
		"$(R)$(A) e":         rule("c b", "db e"),
		"x $(C) $(A)":        rule("x", "b"),
		"$(P).o : $(P).$(A)": rule("%.o", "%.b"),
		"$(E)b$(E) : $(E)":   rule("b", ""),
	} {
		want.Cmds = []string{"fail"}
		expectMake(t, source+line+"\n\tfail", api.Make{Vars: vars, Rules: []api.Rule{want}})
	}
}

func TestParseRuleErrors(t *testing.T) {
	for line, want := range map[string]error{
		"b : $(":          api.ErrText,
		"b : $(a)":        api.ErrText,
		"$(N) b":          api.ErrNone,
		"b : $(N)":        api.ErrNone,
		"b $(N":           api.ErrText,
		"b : $(L)":        api.ErrDeep,
		"b":               api.ErrText,
		"b a c d":         api.ErrText,
		"B":               api.ErrText,
		":":               api.ErrText,
		" : a":            api.ErrText,
		"::":              api.ErrText,
		": a b c d e":     api.ErrText,
		"$(E) : a":        api.ErrText,
		"b $(E)":          api.ErrText,
		"b c d : a":       api.ErrMany,
		"b c d :":         api.ErrMany,
		"b : a c d e":     api.ErrMany,
		"B c d : a":       api.ErrMany,
		"b : A c d e":     api.ErrMany,
		"b b b : a":       api.ErrMany,
		"%.a %.b %.c : a": api.ErrMany,
		"B : a":           api.ErrShape,
		"b C : a":         api.ErrShape,
		"b : A":           api.ErrShape,
		"b : a c 0":       api.ErrShape,
		"b :: a":          api.ErrShape,
		"b : a : c":       api.ErrShape,
		"b : a:c":         api.ErrShape,
		"b\t: a":          api.ErrShape,
		"b :\ta":          api.ErrShape,
		"ninebytes : a":   api.ErrShape,
		"b : ninebytes":   api.ErrShape,
		"\xff : a":        api.ErrShape,
		"b b : a":         api.ErrShape,
		"b : b":           api.ErrShape,
		"b c : c":         api.ErrShape,
		"b : a a":         api.ErrShape,
		"b : a c a":       api.ErrShape,
		"%.o : %.o":       api.ErrShape,
		"%.o : a a":       api.ErrShape,
		"%% : a":          api.ErrShape,
		"%.o : %%":        api.ErrShape,
		"%.o : a%b%":      api.ErrShape,
		"0% : a":          api.ErrShape,
		".% : a":          api.ErrShape,
		"%23456789 : a":   api.ErrShape,
		"b : %":           api.ErrShape,
		"b : a %.c":       api.ErrShape,
		"b c : %.c":       api.ErrShape,
		"%.o %.p : a":     api.ErrShape,
		"%.o b : a":       api.ErrShape,
		"b %.o : a":       api.ErrShape,
		"b %.o : %.c":     api.ErrShape,
	} {
		expectError(t, "L = $(L)\nE = \n"+line+"\n\tfail", want)
	}
}

func TestParseNumberOfRules(t *testing.T) {
	var source strings.Builder
	for i := range api.MaxRules {
		source.WriteString("b" + strconv.Itoa(i) + " : a\n\tfail\n")
	}
	if m, err := makefile.Parse(source.String()); err != nil || len(m.Rules) != api.MaxRules {
		t.Error(m, err)
	}
	expectError(t, source.String()+"c : a\n\tfail", api.ErrMany)
	expectError(t, source.String()+"C : a\n\tfail", api.ErrMany)
	expectError(t, source.String()+"b0 : a\n\tfail", api.ErrMany)
	expectError(t, source.String()+"c", api.ErrText)
	expectError(t, source.String()+": a", api.ErrText)
	expectError(t, source.String()+"c : $(A)", api.ErrNone)
}

// Lists of a result are not parts of one another, so that one may be appended to.
func TestParseListsAreSeparate(t *testing.T) {
	const source = "A = x\nb c : a d\n\tone\n\ttwo\n\tthree\ne : a\n\tone\nphony all\nall : b"
	m, err := makefile.Parse(source)
	if err != nil {
		t.Fatal(err)
	}
	want := copiedMake(m)
	for _, r := range m.Rules {
		for _, l := range [][]string{r.Targets, r.Needs, r.Cmds} {
			_ = append(l, "spoilt")
		}
	}
	_ = append(m.Phony, "spoilt")
	if !reflect.DeepEqual(copiedMake(m), want) {
		t.Errorf("%q, wanted %q", m, want)
	}
	m.Rules[0].Targets[0], m.Phony[0], m.Vars[0].Text = "spoilt", "spoilt", "spoilt"
	expectMake(t, source, want)
}

// E2.

func phony(names ...string) []string { return names }

func rules(l ...api.Rule) []api.Rule { return l }

func TestCheck(t *testing.T) {
	for i, x := range []struct {
		rules []api.Rule
		phony []string
		want  error
	}{
		{nil, nil, nil},
		{rules(rule("b", "a", "x")), nil, nil},
		{rules(rule("b", "a", "")), nil, nil},
		{rules(rule("b c", "a", "x", "y"), rule("d e", "b c", "x")), nil, nil},
		{rules(rule("all", "b")), phony("all"), nil},
		{rules(rule("all", "")), phony("all"), nil},
		{rules(rule("all c", "b")), phony("all"), nil},
		{rules(rule("b", "all", "x"), rule("all", "a")), phony("all"), nil},
		{rules(rule("z", "a"), rule("y", "z")), phony("y", "z"), nil},
		{rules(rule("%.o", "%.c", "x"), rule("x.o", "a", "x"), rule("%.p", "%.c", "x")), nil, nil},

		{rules(rule("b", "a", "x"), rule("b", "c", "x")), nil, api.ErrShape},
		{rules(rule("b", "a", "x"), rule("c", "a", "x"), rule("b", "c", "x")), nil, api.ErrShape},
		{rules(rule("b c", "a", "x"), rule("c", "a", "x")), nil, api.ErrShape},
		{rules(rule("b c", "a", "x"), rule("d c", "a", "x")), nil, api.ErrShape},
		{rules(rule("b", "a", "x"), rule("d b", "a", "x")), nil, api.ErrShape},
		{rules(rule("%.o", "%.c", "x"), rule("%.o", "%.d", "x")), nil, api.ErrShape},
		{rules(rule("all", "a"), rule("all", "b")), phony("all"), api.ErrShape},

		{rules(rule("b", "a")), nil, api.ErrShape},
		{rules(rule("b c", "a")), nil, api.ErrShape},
		{rules(rule("%.o", "%.c")), nil, api.ErrShape},
		{rules(rule("c", "a", "x"), rule("b", "a")), nil, api.ErrShape},
		{rules(rule("all", "b", "x")), phony("all"), api.ErrShape},
		{rules(rule("all", "b", "")), phony("all"), api.ErrShape},
		{rules(rule("c", "a", "x"), rule("all", "b", "x")), phony("all"), api.ErrShape},

		{rules(rule("b all", "a", "x")), phony("all"), api.ErrShape},
		{rules(rule("b all", "a")), phony("all"), api.ErrShape},
		{rules(rule("b all", "a")), phony("all", "b"), api.ErrShape},

		{nil, phony("all"), api.ErrShape},
		{rules(rule("b", "all", "x")), phony("all"), api.ErrShape},
		{rules(rule("y", "a")), phony("y", "z"), api.ErrShape},
		{rules(rule("%", "a", "x")), phony("all"), api.ErrShape},
	} {
		m := api.Make{Rules: x.rules, Phony: x.phony}
		before := copiedMake(m)
		if err := makefile.Check(m); err != x.want {
			t.Errorf("%d: %q: %v, wanted %v", i, m, err, x.want)
		}
		if !reflect.DeepEqual(copiedMake(m), before) {
			t.Errorf("%d: Check changed %q", i, before)
		}
	}
}

// Check looks at nothing that Parse checks in the lines.
func TestCheckOfOtherDescriptions(t *testing.T) {
	many := make([]string, 1000)
	for i := range many {
		many[i] = "Name " + strconv.Itoa(i)
	}
	for i, m := range []api.Make{
		{Vars: []api.Var{{Name: "no name", Text: "$("}, {}}},
		{Rules: rules(rule("B", "B B", "$("))},
		{Rules: rules(api.Rule{Targets: many, Needs: many, Cmds: many})},
		{Rules: rules(rule("b b", "", "x"))},
		{Rules: rules(api.Rule{Cmds: many})},
		{Rules: rules(rule("b c all", "", "x")), Phony: phony("all")},
		{Rules: rules(rule("all", "")), Phony: phony("all", "all")},
		{Rules: rules(api.Rule{Targets: []string{""}}), Phony: phony("")},
	} {
		if err := makefile.Check(m); err != nil {
			t.Errorf("%d: %v", i, err)
		}
	}
	if err := makefile.Check(api.Make{Rules: rules(api.Rule{})}); err != api.ErrShape {
		t.Error("a rule without targets and commands:", err)
	}
}

func TestParseReturnsTheErrorOfCheck(t *testing.T) {
	for _, s := range []string{
		"b : a", "b : a\nc : a\n\tfail", "b : a\n\tfail\nb : c\n\tfail", "b c : a\n\tfail\nd c : a\n\tfail",
		"phony all\nall : b\n\tfail", "all : b\n\tfail\nphony all", "phony all\nb all : a\n\tfail",
		"phony all", "phony all\nb : all\n\tfail", "A = b\n$(A) : a\n\tfail\nb : c\n\tfail",
	} {
		expectError(t, s, api.ErrShape)
	}
}

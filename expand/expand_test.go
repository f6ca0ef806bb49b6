package expand_test

import (
	"slices"
	"strings"
	"testing"

	"hammerpond/api"
	"hammerpond/expand"
)

// texts returns all texts of at most n bytes of an alphabet.
func texts(alphabet string, n int) []string {
	all := []string{""}
	longest := all
	for range n {
		var longer []string
		for _, s := range longest {
			for i := range len(alphabet) {
				longer = append(longer, s+alphabet[i:i+1])
			}
		}
		all = append(all, longer...)
		longest = longer
	}
	return all
}

// D1: Var.

func TestVarOneByte(t *testing.T) {
	for c := range 256 {
		is := c >= 'A' && c <= 'Z'
		for before := range 4 {
			for after := range 4 - before {
				s := strings.Repeat("M", before) + string([]byte{byte(c)}) + strings.Repeat("M", after)
				if expand.Var(s) != is {
					t.Errorf("Var(%q) is %v", s, !is)
				}
			}
		}
	}
}

func TestVarLength(t *testing.T) {
	for n := range 12 {
		if got := expand.Var(strings.Repeat("A", n)); got != (n >= 1 && n <= 4) {
			t.Errorf("%d letters: %v", n, got)
		}
	}
	if expand.Var("É") || expand.Var("AÉ") {
		t.Error("a letter that is not from A to Z")
	}
}

// D1: Text.

func expectText(t *testing.T, l []api.Var, s, want string, wantErr error) {
	t.Helper()
	before := slices.Clone(l)
	got, err := expand.Text(l, s)
	if got != want || err != wantErr {
		t.Errorf("Text(%q, %q) is %q, %v, wanted %q, %v", l, s, got, err, want, wantErr)
	}
	if !slices.Equal(l, before) {
		t.Errorf("Text(%q, %q) changed its variables", before, s)
	}
}

func some() []api.Var {
	return []api.Var{
		{Name: "A", Text: "first"},
		{Name: "E", Text: ""},
		{Name: "B", Text: "<$(A)>"},
		{Name: "A", Text: "x"},
		{Name: "ABCD", Text: " y  z "},
		{Name: "D", Text: "$"},
		{Name: "P", Text: "(A)"},
		{Name: "R", Text: "$(L)"},
		{Name: "L", Text: "later"},
		{Name: "U", Text: "$(NONE)"},
		{Name: "V", Text: "v$(A"},
		{Name: "W", Text: "w$(a)"},
		{Name: "a", Text: "small"},
		{Name: "", Text: "empty"},
		{Name: "ABCDE", Text: "long"},
	}
}

func TestText(t *testing.T) {
	for s, want := range map[string]string{
		"":                      "",
		"plain $@ $< % text":    "plain $@ $< % text",
		"$":                     "$",
		"$$":                    "$$",
		"()":                    "()",
		")(":                    ")(",
		"$ (A)":                 "$ (A)",
		"\x00\n\t\xff":          "\x00\n\t\xff",
		"$(A)":                  "x",
		"a$(A)b":                "axb",
		"$(A))":                 "x)",
		"$$(A)":                 "$x",
		"$$(A)(A)":              "$x(A)",
		"$(E)":                  "",
		"$(E)$(E)a$(E)":         "a",
		"$(A)$(A) $(A)":         "xx x",
		"$(ABCD)":               " y  z ",
		"$(B)":                  "<x>",
		"$(B)$(A)$(B)":          "<x>x<x>",
		"$(R)":                  "later",
		"$(D)(A)":               "$(A)",
		"$(D)$(P)":              "$(A)",
		"$(D)$(D)$(A)":          "$$x",
		"\xff$(A)\xff":          "\xffx\xff",
		"$(A) = $(B) : $(ABCD)": "x = <x> :  y  z ",
	} {
		expectText(t, some(), s, want, nil)
	}
}

func TestTextWithoutVariables(t *testing.T) {
	expectText(t, nil, "a $ b", "a $ b", nil)
	expectText(t, nil, "$(A)", "", api.ErrNone)
	expectText(t, nil, "$(a)", "", api.ErrText)
}

func TestTextThatCannotBeRead(t *testing.T) {
	for _, s := range []string{
		"$(", "$(A", "a$(A b", "$(A)$(A", "$()", "$(a)", "$(ABCDE)", "$( A)", "$(A )", "$(A1)", "$(%)",
		"$($(A))", "$(A$(A))", "$(\xff)", "$(V)", "$(V))", "$(W)", "$(A)$(W)", "$($)",
	} {
		expectText(t, some(), s, "", api.ErrText)
	}
}

func TestTextOfNoVariable(t *testing.T) {
	for _, s := range []string{"$(NONE)", "$(C)", "$(AA)", "$(U)", "$(A)$(U)", "a$(B)$(Z)b"} {
		expectText(t, some(), s, "", api.ErrNone)
	}
}

// The error that the text comes to first counts, and what follows it does not.
func TestTextErrorsInOrder(t *testing.T) {
	long := strings.Repeat("x", api.MaxSource+1)
	l := append(some(),
		api.Var{Name: "T", Text: "$(T)"},
		api.Var{Name: "TN", Text: "$(T)$(NONE)"},
		api.Var{Name: "NT", Text: "$(NONE)$(T)"},
		api.Var{Name: "TX", Text: "$(TX)$("},
		api.Var{Name: "XT", Text: "$()$(XT)"},
		api.Var{Name: "LONG", Text: long},
		api.Var{Name: "LX", Text: long + "$("},
		api.Var{Name: "LN", Text: long + "$(NONE)"},
		api.Var{Name: "LE", Text: long + "$(E)$("},
	)
	for s, want := range map[string]error{
		"$(NONE)$(":           api.ErrNone,
		"$(NONE)$(a)":         api.ErrNone,
		"$(a)$(NONE)":         api.ErrText,
		"$(U)$(a)":            api.ErrNone,
		"$(W)$(NONE)":         api.ErrText,
		"$(T)$(":              api.ErrDeep,
		"$(T)$(NONE)":         api.ErrDeep,
		"$(NONE)$(T)":         api.ErrNone,
		"$(TN)":               api.ErrDeep,
		"$(NT)":               api.ErrNone,
		"$(TX)":               api.ErrDeep,
		"$(XT)":               api.ErrText,
		"$(LONG)$(":           api.ErrMany,
		"$(LONG)$(NONE)":      api.ErrMany,
		"$(LONG)$(T)":         api.ErrMany,
		"$(NONE)$(LONG)":      api.ErrNone,
		"$(T)$(LONG)":         api.ErrDeep,
		"$($(LONG)":           api.ErrText,
		"$(LX)":               api.ErrText,
		"$(LN)":               api.ErrNone,
		"$(LE)":               api.ErrMany,
		long + "$(":           api.ErrText,
		long + "$(A":          api.ErrText,
		long + "$(a)":         api.ErrText,
		long + "$(NONE)":      api.ErrNone,
		long + "$(T)":         api.ErrDeep,
		long + "$(E)":         api.ErrMany,
		long + "$(E)$(":       api.ErrMany,
		long + "$(E)$(NONE)":  api.ErrMany,
		long + "$(A)$(T)":     api.ErrMany,
		long[1:] + "$(E)$(":   api.ErrText,
		long[1:] + "$(A)$(":   api.ErrMany,
		long[1:] + "$(U)$(A)": api.ErrNone,
	} {
		expectText(t, l, s, "", want)
	}
}

// chain returns n variables of which each refers to the next one, and the last one to nothing.
func chain(n int) []api.Var {
	var l []api.Var
	for i := range n - 1 {
		l = append(l, api.Var{Name: string(rune('A' + i)), Text: string(rune('a'+i)) + "$(" + string(rune('B'+i)) + ")"})
	}
	return append(l, api.Var{Name: string(rune('A' + n - 1)), Text: "."})
}

func TestTextDepth(t *testing.T) {
	expectText(t, chain(1), "$(A)", ".", nil)
	expectText(t, chain(4), "$(A)", "abc.", nil)
	expectText(t, chain(api.MaxDeep), "$(A)", "abcd.", nil)
	expectText(t, chain(api.MaxDeep+1), "$(A)", "", api.ErrDeep)
	expectText(t, chain(api.MaxDeep+1), "$(B)", "bcde.", nil)
	expectText(t, chain(api.MaxDeep+2), "$(B)", "", api.ErrDeep)
	expectText(t, chain(api.MaxDeep+9), "$(A)", "", api.ErrDeep)
}

// That a variable has been expanded once does not make it less deep elsewhere.
func TestTextDepthOfEachReference(t *testing.T) {
	l := chain(api.MaxDeep + 1)
	expectText(t, l, "$(F)$(E)$(D)$(C)$(B)", ".e.de.cde.bcde.", nil)
	expectText(t, l, "$(F)$(E)$(D)$(C)$(B)$(A)", "", api.ErrDeep)
	expectText(t, l, "$(A)$(B)", "", api.ErrDeep)
}

func TestTextOfRounds(t *testing.T) {
	l := []api.Var{{Name: "L", Text: "$(L)"}, {Name: "X", Text: "$(Y)"}, {Name: "Y", Text: "$(X)"}}
	expectText(t, l, "$(L)", "", api.ErrDeep)
	expectText(t, l, "$(X)", "", api.ErrDeep)
	expectText(t, l, "$(Y)", "", api.ErrDeep)
}

// A missing variable is mentioned before the depth.
func TestTextMissingAtGreatestDepth(t *testing.T) {
	l := chain(api.MaxDeep + 1)[:api.MaxDeep]
	expectText(t, l, "$(A)", "", api.ErrNone)
	l[api.MaxDeep-1].Text = "$(f)"
	expectText(t, l, "$(A)", "", api.ErrText)
	l[api.MaxDeep-1].Text = "$(F"
	expectText(t, l, "$(A)", "", api.ErrText)
}

func TestTextSize(t *testing.T) {
	full := strings.Repeat("x", api.MaxSource)
	l := []api.Var{
		{Name: "FULL", Text: full},
		{Name: "MORE", Text: full + "x"},
		{Name: "HALF", Text: full[:api.MaxSource/2]},
		{Name: "TWO", Text: "$(HALF)$(HALF)"},
		{Name: "OVER", Text: "$(HALF)$(HALF)x"},
		{Name: "E"},
	}
	for s, want := range map[string]error{
		full: nil, "$(FULL)": nil, "$(E)$(FULL)$(E)": nil, "$(HALF)$(HALF)": nil, "$(TWO)": nil, full[1:] + "$(E)x": nil,
		full + "x": api.ErrMany, "$(MORE)": api.ErrMany, "$(FULL)x": api.ErrMany, "x$(FULL)": api.ErrMany,
		"$(HALF)$(HALF)x": api.ErrMany, "$(OVER)": api.ErrMany, "$(TWO)x": api.ErrMany, "$(TWO)$(TWO)": api.ErrMany,
		full + "x$(E)": api.ErrMany,
	} {
		result := ""
		if want == nil {
			result = full
		}
		expectText(t, l, s, result, want)
	}
}

// Each text refers to the next one many times: following every path would not end.
func TestTextManyPaths(t *testing.T) {
	const times = 2000
	var l []api.Var
	for c := 'A'; c < 'E'; c++ {
		l = append(l, api.Var{Name: string(c), Text: strings.Repeat("$("+string(c+1)+")", times)})
	}
	l = append(l, api.Var{Name: "E"})
	expectText(t, l, strings.Repeat("$(A)", times), "", nil)
	l[len(l)-1].Text = "$(A)"
	expectText(t, l, strings.Repeat("$(A)", times), "", api.ErrDeep)
	l[len(l)-1].Text = "xy"
	expectText(t, l, strings.Repeat("$(A)", times), "", api.ErrMany)
}

// What is behind the list in memory is not a part of it.
func TestTextReadsOnlyTheList(t *testing.T) {
	l := []api.Var{{Name: "A", Text: "x"}, {Name: "A", Text: "y"}, {Name: "B", Text: "z"}}
	expectText(t, l[:1], "$(A)", "x", nil)
	expectText(t, l[:1], "$(B)", "", api.ErrNone)
}

// D2.

func TestAuto(t *testing.T) {
	targets, needs := []string{"t", "u"}, []string{"a", "b", "c"}
	for s, want := range map[string]string{
		"":                  "",
		"copy a b":          "copy a b",
		"$@":                "t",
		"$<":                "a",
		"$^":                "a b c",
		"$*":                "s",
		"join $@ $^ $< $*":  "join t a b c a s",
		"$@$@$<$<$^$^$*$*":  "ttaaa b ca b css",
		"$$@":               "$t",
		"$$$*$":             "$$s$",
		"$":                 "$",
		"@<^*":              "@<^*",
		"$(A)":              "$(A)",
		"$x $% $\n":         "$x $% $\n",
		"\xff$@\xff":        "\xfft\xff",
		"$ @":               "$ @",
		"put $@ a$*b  $<$ ": "put t asb  a$ ",
	} {
		if got := expand.Auto(s, targets, needs, "s"); got != want {
			t.Errorf("Auto(%q) is %q, wanted %q", s, got, want)
		}
	}
	if !slices.Equal(targets, []string{"t", "u"}) || !slices.Equal(needs, []string{"a", "b", "c"}) {
		t.Error("Auto changed its arguments")
	}
}

func TestAutoWithFewNames(t *testing.T) {
	const s = "$@|$<|$^|$*"
	for _, x := range []struct {
		targets, needs []string
		stem, want     string
	}{
		{[]string{"t"}, nil, "", "t|||"},
		{[]string{"t"}, []string{}, "s", "t|||s"},
		{[]string{"t"}, []string{"a"}, "", "t|a|a|"},
		{[]string{"t", "u"}, []string{"a", "b"}, "st", "t|a|a b|st"},
		{[]string{"t"}, []string{"", ""}, "", "t|| |"},
		{nil, nil, "", "|||"},
	} {
		if got := expand.Auto(s, x.targets, x.needs, x.stem); got != x.want {
			t.Errorf("%q: %q", x, got)
		}
	}
}

func TestAutoDoesNotExamineAgain(t *testing.T) {
	for _, x := range []struct {
		s          string
		target     string
		needs      []string
		stem, want string
	}{
		{"$@", "$<", []string{"a"}, "s", "$<"},
		{"$<", "t", []string{"$^"}, "s", "$^"},
		{"$^", "t", []string{"$*", "$@"}, "s", "$* $@"},
		{"$*", "t", []string{"a"}, "$@", "$@"},
		{"$*@", "t", []string{"a"}, "$", "$@"},
		{"$@$<", "$", []string{"<"}, "s", "$<"},
		{"$$*", "t", nil, "@", "$@"},
	} {
		if got := expand.Auto(x.s, []string{x.target}, x.needs, x.stem); got != x.want {
			t.Errorf("%q: %q", x, got)
		}
	}
}

// plainAuto is Auto, byte by byte.
func plainAuto(s string, targets, needs []string, stem string) string {
	out := ""
	for s != "" {
		switch {
		case strings.HasPrefix(s, "$@"):
			out += targets[0]
		case strings.HasPrefix(s, "$<"):
			out += strings.Join(needs[:min(1, len(needs))], "")
		case strings.HasPrefix(s, "$^"):
			out += strings.Join(needs, " ")
		case strings.HasPrefix(s, "$*"):
			out += stem
		default:
			out += s[:1]
			s = s[1:]
			continue
		}
		s = s[2:]
	}
	return out
}

func TestAutoAllShortTexts(t *testing.T) {
	for _, s := range texts("$@<^*a", 5) {
		for n := range 3 {
			targets, needs := []string{"t", "u"}, []string{"n$", "<m"}[:n]
			if got, want := expand.Auto(s, targets, needs, "*$"), plainAuto(s, targets, needs, "*$"); got != want {
				t.Errorf("Auto(%q, %q) is %q, wanted %q", s, needs, got, want)
			}
		}
	}
}

// D3.

func TestStem(t *testing.T) {
	for _, x := range []struct {
		pattern, name, want string
		is                  bool
	}{
		{"%.o", "x.o", "x", true},
		{"%.o", "x.y.o", "x.y", true},
		{"%.o", ".o.o", ".o", true},
		{"%.o", ".o", "", false},
		{"%.o", "o", "", false},
		{"%.o", "", "", false},
		{"%.o", "x.c", "", false},
		{"%.o", "x.oo", "", false},
		{"%", "", "", false},
		{"%", "x", "x", true},
		{"%", "%", "%", true},
		{"%", "\xff", "\xff", true},
		{"a%", "a", "", false},
		{"a%", "abc", "bc", true},
		{"a%", "ba", "", false},
		{"a%a", "a", "", false},
		{"a%a", "aa", "", false},
		{"a%a", "aaa", "a", true},
		{"ab%ba", "aba", "", false},
		{"ab%ba", "abba", "", false},
		{"ab%ba", "abxba", "x", true},
		{"%%", "%", "", false},
		{"%%", "x%", "x", true},
		{"%%", "xy", "", false},
		{"a%b%c", "axb%c", "x", true},
		{"a%b%c", "axbyc", "", false},
		{"", "", "", false},
		{"", "a", "", false},
		{"abc", "abc", "", false},
		{"longer%than", "lan", "", false},
	} {
		if got, is := expand.Stem(x.pattern, x.name); got != x.want || is != x.is {
			t.Errorf("Stem(%q, %q) is %q, %v", x.pattern, x.name, got, is)
		}
	}
}

// A name has a stem exactly if the stem in place of the first % gives the name.
func TestStemAllShortNames(t *testing.T) {
	all := texts("a%.", 4)
	for _, pattern := range all {
		stems := map[string]string{}
		if strings.Contains(pattern, "%") {
			for _, stem := range all[1:] {
				stems[strings.Replace(pattern, "%", stem, 1)] = stem
			}
		}
		for _, name := range all {
			want, wantIs := stems[name]
			if got, is := expand.Stem(pattern, name); got != want || is != wantIs {
				t.Errorf("Stem(%q, %q) is %q, %v, wanted %q, %v", pattern, name, got, is, want, wantIs)
			}
		}
	}
}

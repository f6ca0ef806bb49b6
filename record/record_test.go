package record_test

import (
	"slices"
	"strings"
	"testing"

	"hammerpond/api"
	"hammerpond/record"
)

func file(name, text string) api.File { return api.File{Name: name, Text: text} }

func list(l ...api.File) []api.File { return l }

func base() []api.File {
	return list(file("a", "q"), file("b", ""), file("x.c", "ab"), file("x.d", "cd"))
}

// equal reports the same as Same is promised to, in another way.
func equal(a, b api.Record) bool {
	if len(a.Cmds) != len(b.Cmds) || len(a.Needs) != len(b.Needs) || len(a.Out) != len(b.Out) {
		return false
	}
	for i := range a.Cmds {
		if a.Cmds[i] != b.Cmds[i] {
			return false
		}
	}
	for i := range a.Needs {
		if a.Needs[i] != b.Needs[i] {
			return false
		}
	}
	for i := range a.Out {
		if a.Out[i] != b.Out[i] {
			return false
		}
	}
	return true
}

// G1.

func TestOf(t *testing.T) {
	cmds := []string{"one", "", "two two"}
	out := list(file("b", "1"), file("c", ""))
	for _, x := range []struct {
		needs []string
		want  []api.File
	}{
		{nil, nil},
		{[]string{"a"}, list(file("a", "q"))},
		{[]string{"x.c", "b", "a"}, list(file("x.c", "ab"), file("b", ""), file("a", "q"))},
		{[]string{"x.d", "none", "a"}, list(file("x.d", "cd"), file("a", "q"))},
		{[]string{"none", "x", ""}, nil},
		{[]string{"a", "b", "a"}, list(file("a", "q"), file("b", ""), file("a", "q"))},
	} {
		g := api.Group{Targets: []string{"c", "b"}, Needs: x.needs, Cmds: cmds}
		want := api.Record{Cmds: cmds, Needs: x.want, Out: out}
		if got := record.Of(g, base(), out); !equal(got, want) {
			t.Errorf("%q: %v, wanted %v", x.needs, got, want)
		}
	}
}

// What was built is what out says, whatever the targets are and the files contain.
func TestOfOtherOut(t *testing.T) {
	g := api.Group{Targets: []string{"a"}, Needs: []string{"a"}, Cmds: []string{"fail"}, Phony: true}
	for _, out := range [][]api.File{nil, list(file("a", "new")), list(file("z", "1"))} {
		want := api.Record{Cmds: g.Cmds, Needs: list(file("a", "q")), Out: out}
		if got := record.Of(g, base(), out); !equal(got, want) {
			t.Errorf("%v, wanted %v", got, want)
		}
	}
	if got := record.Of(api.Group{}, nil, nil); !equal(got, api.Record{}) {
		t.Error(got)
	}
}

func TestOfLeavesItsArguments(t *testing.T) {
	g := api.Group{Targets: []string{"c"}, Needs: []string{"x.c", "a"}, Cmds: []string{"one", "two"}}
	l, out := base(), list(file("c", "1"))
	r := record.Of(g, l, out)
	r.Cmds[0], r.Needs[0].Text, r.Out[0].Text = "spoilt", "spoilt", "spoilt"
	if !slices.Equal(g.Cmds, []string{"one", "two"}) || !slices.Equal(g.Needs, []string{"x.c", "a"}) {
		t.Error(g)
	}
	if !slices.Equal(l, base()) || !slices.Equal(out, list(file("c", "1"))) {
		t.Error(l, out)
	}
	r = record.Of(g, l, out)
	g.Cmds[0], l[2].Text, out[0].Text = "spoilt", "spoilt", "spoilt"
	if !equal(r, api.Record{Cmds: []string{"one", "two"}, Needs: list(file("x.c", "ab"), file("a", "q")), Out: list(file("c", "1"))}) {
		t.Error(r)
	}
}

// records are all different from one another.
func records() []api.Record {
	return []api.Record{
		{},
		{Cmds: []string{""}},
		{Cmds: []string{"", ""}},
		{Cmds: []string{"a"}},
		{Cmds: []string{"a", "b"}},
		{Cmds: []string{"b", "a"}},
		{Cmds: []string{"a", "b", "c"}},
		{Cmds: []string{"a b"}},
		{Cmds: []string{"1:a 0 0"}},
		{Cmds: []string{strings.Repeat("x", api.MaxKeep)}},
		{Cmds: []string{"\x00\xff é\n"}},
		{Needs: list(file("a", ""))},
		{Needs: list(file("a", "q"))},
		{Needs: list(file("b", "q"))},
		{Needs: list(file("a", "q"), file("b", "r"))},
		{Needs: list(file("b", "r"), file("a", "q"))},
		{Needs: list(file("a", "q"), file("a", "q"))},
		{Needs: list(file("a", ""), file("b", ""), file("x.c", " 1:2 b 3:"))},
		{Out: list(file("a", ""))},
		{Out: list(file("a", "q"))},
		{Out: list(file("a", "q"), file("b", "r"))},
		{Out: list(file("b", "r"), file("a", "q"))},
		{Needs: list(file("a", "q")), Out: list(file("b", "r"))},
		{Needs: list(file("b", "r")), Out: list(file("a", "q"))},
		{Cmds: []string{"copy a b"}, Needs: list(file("a", "q")), Out: list(file("b", "q"))},
		{Cmds: []string{"copy a b"}, Needs: list(file("a", "q")), Out: list(file("b", "r"))},
		{Cmds: []string{"copy a b"}, Needs: list(file("a", "r")), Out: list(file("b", "q"))},
		{Cmds: []string{"turn a b"}, Needs: list(file("a", "q")), Out: list(file("b", "q"))},
		{
			Cmds:  []string{"", strings.Repeat("y", api.MaxKeep), "3:"},
			Needs: list(file("abcdefgh", strings.Repeat("z", api.MaxText)), file("a", "\xff\x00"), file("b0.", ":")),
			Out:   list(file("x.o", " "), file("y.o", "0 0 0")),
		},
	}
}

func TestSame(t *testing.T) {
	l, again := records(), records()
	for i, a := range l {
		for j, b := range again {
			if got := record.Same(a, b); got != (i == j) {
				t.Errorf("Same(%v, %v): %v", a, b, got)
			}
		}
	}
}

// A list without elements is the same whether it is nil or not.
func TestSameOfEmptyLists(t *testing.T) {
	if !record.Same(api.Record{}, api.Record{Cmds: []string{}, Needs: list(), Out: []api.File{}}) {
		t.Error("empty lists")
	}
}

// G2.

func TestText(t *testing.T) {
	for _, x := range []struct {
		record api.Record
		want   string
	}{
		{api.Record{}, "0 0 0"},
		{api.Record{Cmds: []string{"copy a b"}, Needs: list(file("a", "q")), Out: list(file("b", "q"))}, "1 1 1 8:copy a b a 1:q b 1:q"},
		{api.Record{Cmds: []string{"", "x"}}, "2 0 0 0: 1:x"},
		{api.Record{Needs: list(file("b", ""), file("a", "0123456789"))}, "0 2 0 b 0: a 10:0123456789"},
		{api.Record{Out: list(file("a", " "), file("b", "é"))}, "0 0 2 a 1:  b 2:é"},
		{api.Record{Cmds: make([]string, 11)}, "11 0 0" + strings.Repeat(" 0:", 11)},
		{api.Record{Needs: list(file("", ""), file("No name", "x"))}, "0 2 0  0: No name 1:x"},
		{api.Record{Out: list(file("a", strings.Repeat("z", 1234)))}, "0 0 1 a 1234:" + strings.Repeat("z", 1234)},
	} {
		if got := record.Text(x.record); got != x.want {
			t.Errorf("%v: %q, wanted %q", x.record, got, x.want)
		}
		if got := record.Size(x.record); got != len(x.want) {
			t.Errorf("%v: %d bytes, wanted %d", x.record, got, len(x.want))
		}
	}
}

func TestParseOfTexts(t *testing.T) {
	for _, r := range records() {
		got, err := record.Parse(record.Text(r))
		if err != nil || !equal(got, r) {
			t.Errorf("%v: %v, %v", r, got, err)
		}
	}
}

func expectBad(t *testing.T, s string) {
	t.Helper()
	if r, err := record.Parse(s); err != api.ErrText || !equal(r, api.Record{}) {
		t.Errorf("%q: %v, %v", s, r, err)
	}
}

func TestParseErrors(t *testing.T) {
	for _, s := range []string{
		"", " ", "0", "0 ", "0 0", "0 0 ", " 0 0 0", "0 0 0 ", "0 0 0 0", "0  0 0", "0,0,0", "0 0 0\n", "0\t0\t0",
		"00 0 0", "0 00 0", "0 0 00", "01 0 0 0:", "+0 0 0", "-0 0 0", "-1 0 0", "0x0 0 0", "0 0 -1", "0_0 0 0", "a b c",
		"1 0 0", "1 0 0 ", "1 0 0 :", "1 0 0 1", "1 0 0 1:", "1 0 0 2:a", "1 0 0 0:a", "1 0 0 1:ab", "1 0 0 01:a", "1 0 0 +1:a",
		"1 0 0 -1:a", "1 0 0  1:a", "1 0 01:a", "1 0 0 1 :a", "1 0 0 1: a", "1 0 0 1;a", "1 0 0 1:a ", "1 0 0 1:a 1:b",
		"2 0 0 1:a", "2 0 0 1:a1:b", "2 0 0 1:a  1:b", "0 0 0 1:a",
		"0 1 0", "0 1 0 a", "0 1 0 a ", "0 1 0 a 1", "0 1 0 a 1:", "0 1 0 a:q", "0 1 0 a 2:q", "0 1 0 a 0:q", "0 1 0 a  1:q",
		"0 1 0  a 1:q", "0 1 0a 1:q", "0 1 0 1:q", "0 1 0  1:q", "0 1 0 a 01:q", "0 1 0 a 1:q b 1:r", "0 0 0 a 1:q",
		"0 1 0 A 1:q", "0 1 0 0a 1:q", "0 1 0 a% 1:q", "0 1 0 ninebytes 1:q", "0 1 0 a\n 1:q",
		"0 0 1", "0 0 1 A 1:x", "0 0 1 .a 1:x", "0 0 1 ninebytes 1:x", "0 0 1  1:x", "0 0 2 a 1:x", "0 0 2 a 1:x B 1:x",
		"0 2 0 a 1:q B 1:q", "0 3 0 a 0: b 0: 0 0:",
	} {
		expectBad(t, s)
	}
}

func TestParseLimits(t *testing.T) {
	text, long := strings.Repeat("z", api.MaxText), strings.Repeat("z", api.MaxText+1)
	for _, r := range []api.Record{
		{Cmds: make([]string, api.MaxCmds+1)},
		{Cmds: []string{strings.Repeat("x", api.MaxKeep+1)}},
		{Cmds: []string{"", "", strings.Repeat("x", api.MaxKeep+1)}},
		{Needs: list(file("a", ""), file("b", ""), file("c", ""), file("d", ""))},
		{Needs: list(file("a", text), file("b", long))},
		{Out: list(file("a", ""), file("b", ""), file("c", ""))},
		{Out: list(file("a", text), file("b", long))},
		{Needs: list(file("", "x"))},
		{Out: list(file("a b", "x"))},
		{Cmds: make([]string, 1000)},
	} {
		expectBad(t, record.Text(r))
	}
	for _, n := range []string{"10", "100", "2147483648", "4294967296", "18446744073709551616", strings.Repeat("9", 1000)} {
		expectBad(t, n+" 0 0")
		expectBad(t, "0 "+n+" 0")
		expectBad(t, "0 0 "+n)
		expectBad(t, "1 0 0 "+n+":")
		expectBad(t, "0 1 0 a "+n+":")
		expectBad(t, "0 0 1 a "+n+":x")
	}
}

// A text that begins or ends elsewhere is not a text of a record, nor is one with
// another byte in place of a number, a space or a colon.
func TestParsePartsOfTexts(t *testing.T) {
	s := record.Text(api.Record{Cmds: []string{"copy a b"}, Needs: list(file("a", "q")), Out: list(file("b", "q"))})
	for i := range s {
		expectBad(t, s[:i])
		expectBad(t, s+s[:i+1])
		if i > 0 {
			expectBad(t, s[i:])
		}
		expectBad(t, s[:i]+s[i+1:])
	}
}

// Whatever Parse reads, Text writes.
func TestTextOfParse(t *testing.T) {
	const bytes = "01 :aA"
	n := 0
	for code := range 6 * 6 * 6 * 6 * 6 * 6 {
		tail := ""
		for ; code > 0; code /= 6 {
			tail += bytes[code%6 : code%6+1]
		}
		for _, head := range []string{"", "0 0 ", "1 0 0", "0 1 0 ", "1 0 1 0:"} {
			s := head + tail
			r, err := record.Parse(s)
			if err == nil && record.Text(r) != s {
				t.Errorf("%q: %v, of which the text is %q", s, r, record.Text(r))
			}
			if err == nil {
				n++
			}
		}
	}
	if n == 0 {
		t.Error("nothing was read")
	}
}

// The size of a text that would fill the memory is known all the same.
func TestSizeOfALongText(t *testing.T) {
	text := strings.Repeat("z", 1<<20)
	needs := slices.Repeat(list(file("a", text)), 1<<16)
	want := len("0 65536 0") + len(needs)*(len(" a 1048576:")+len(text))
	if got := record.Size(api.Record{Needs: needs}); got != want {
		t.Errorf("%d, wanted %d", got, want)
	}
}

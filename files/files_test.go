package files_test

import (
	"slices"
	"strings"
	"testing"

	"hammerpond/api"
	"hammerpond/files"
)

func TestNameByLength(t *testing.T) {
	for n := range 2*api.MaxName + 1 {
		want := 1 <= n && n <= api.MaxName
		if got := files.Name(strings.Repeat("a", n)); got != want {
			t.Errorf("Name of %d bytes: %v", n, got)
		}
	}
	if files.Name(strings.Repeat("a", 1000)) {
		t.Error("Name of 1000 bytes")
	}
}

func TestNameByBytes(t *testing.T) {
	const first = "abcdefghijklmnopqrstuvwxyz"
	const other = first + "0123456789."
	for c := range 256 {
		b := string([]byte{byte(c)})
		in := func(set string) bool { return strings.Contains(set, b) }
		for _, rest := range []string{"", "a", "a.0bcde"} {
			if got := files.Name(b + rest); got != in(first) {
				t.Errorf("Name(%q): %v", b+rest, got)
			}
		}
		for at := 1; at < api.MaxName; at++ {
			s := "abcdefgh"[:at] + b + "abcdefgh"[at+1:]
			if got := files.Name(s); got != in(other) {
				t.Errorf("Name(%q): %v", s, got)
			}
		}
	}
}

func TestNameOfTheDocument(t *testing.T) {
	if !files.Name("x.c") || files.Name("0a") {
		t.Error("the example of chapter 1")
	}
}

func TestCheck(t *testing.T) {
	full := strings.Repeat("z", api.MaxText)
	tests := []struct {
		file api.File
		want error
	}{
		{api.File{Name: "a"}, nil},
		{api.File{Name: "x.c", Text: full}, nil},
		{api.File{Name: "a", Text: "\x00\xff \n"}, nil},
		{api.File{Name: "a", Text: full + "z"}, api.ErrMany},
		{api.File{Name: "a", Text: strings.Repeat("é", 11)}, api.ErrMany},
		{api.File{}, api.ErrShape},
		{api.File{Name: "Big", Text: "x"}, api.ErrShape},
		{api.File{Name: "abcdefghi", Text: full}, api.ErrShape},
		{api.File{Name: "0a", Text: full + "z"}, api.ErrShape},
	}
	for _, x := range tests {
		if got := files.Check(x.file); got != x.want {
			t.Errorf("Check(%q): %v, not %v", x.file, got, x.want)
		}
	}
}

// names are all that the tests of lists use; byte order puts "a" < "a." < "a0" < "b".
var names = []string{"a", "a.", "a0", "aa", "b"}

// sorted returns each sorted list of some of the names.
func sorted() [][]api.File {
	var all [][]api.File
	for set := range 1 << len(names) {
		l := []api.File{}
		for i, name := range names {
			if set>>i&1 == 1 {
				l = append(l, api.File{Name: name, Text: "old " + name})
			}
		}
		all = append(all, l)
	}
	return all
}

// slow is what a list has under a name, found without relying on the order.
func slow(l []api.File, name string) (string, bool) {
	for _, f := range l {
		if f.Name == name {
			return f.Text, true
		}
	}
	return "", false
}

func rising(l []api.File) bool {
	for i := 1; i < len(l); i++ {
		if l[i-1].Name >= l[i].Name {
			return false
		}
	}
	return true
}

func TestGet(t *testing.T) {
	for _, l := range append(sorted(), nil) {
		for _, name := range append(slices.Clone(names), "", "0", "a/", "ab", "c") {
			text, found := files.Get(l, name)
			wantText, want := slow(l, name)
			if text != wantText || found != want {
				t.Errorf("Get(%q, %q): %q, %v", l, name, text, found)
			}
		}
	}
}

func TestGetOfEmptyText(t *testing.T) {
	if text, found := files.Get([]api.File{{Name: "a"}}, "a"); text != "" || !found {
		t.Errorf("%q, %v", text, found)
	}
}

// expectAll checks that a list is sorted and has the wanted texts under all names, and nothing else.
func expectAll(t *testing.T, what string, l []api.File, want map[string]string) {
	t.Helper()
	if !rising(l) || len(l) != len(want) {
		t.Errorf("%s: %q, wanted %q", what, l, want)
	}
	for name, text := range want {
		if got, found := slow(l, name); got != text || !found {
			t.Errorf("%s: %q under %q in %q", what, got, name, l)
		}
	}
}

func texts(l []api.File) map[string]string {
	m := map[string]string{}
	for _, f := range l {
		m[f.Name] = f.Text
	}
	return m
}

func TestPut(t *testing.T) {
	for _, l := range append(sorted(), nil) {
		for _, name := range names {
			for _, text := range []string{"new", ""} {
				want := texts(l)
				want[name] = text
				got := files.Put(l, api.File{Name: name, Text: text})
				expectAll(t, "Put "+name, got, want)
			}
		}
	}
}

func TestDrop(t *testing.T) {
	for _, l := range append(sorted(), nil) {
		for _, name := range append(slices.Clone(names), "", "c") {
			want := texts(l)
			delete(want, name)
			expectAll(t, "Drop "+name, files.Drop(l, name), want)
		}
	}
}

func TestArgumentsStayAndResultsAreNew(t *testing.T) {
	spare := api.File{Name: "spare", Text: "spare"}
	for _, l := range sorted() {
		before := slices.Clone(l)
		// Room behind the list tempts an append to write there.
		roomy := append(slices.Clone(l), spare, spare)[:len(l)]
		for _, name := range append(slices.Clone(names), "c") {
			for _, out := range [][]api.File{
				files.Put(roomy, api.File{Name: name, Text: "new"}),
				files.Drop(roomy, name),
			} {
				all := out[:cap(out)]
				for i := range all {
					all[i] = api.File{Name: "gone", Text: "gone"}
				}
				behind := roomy[:len(l)+2][len(l):]
				if !slices.Equal(roomy, before) || behind[0] != spare || behind[1] != spare {
					t.Fatalf("%q with %q: the argument is %q now", before, name, roomy)
				}
			}
		}
	}
}

func TestListsThatAreNotSorted(t *testing.T) {
	lists := [][]api.File{
		{{Name: "b"}, {Name: "a"}},
		{{Name: "a"}, {Name: "a"}, {Name: "a"}},
		{{Name: "z"}, {Name: ""}, {Name: "m"}, {Name: "\xff"}, {Name: "b"}},
	}
	for _, l := range lists {
		for _, name := range []string{"", "a", "b", "m", "z", "\xff\xff"} {
			files.Get(l, name)
			files.Put(l, api.File{Name: name})
			files.Drop(l, name)
		}
	}
}

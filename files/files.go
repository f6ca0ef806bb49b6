// Package files holds sorted lists of files (doc/01-files.md).
package files

import (
	"slices"
	"sort"

	"hammerpond/api"
)

// Name reports whether s is a valid name of a file.
func Name(s string) bool {
	if len(s) < 1 || len(s) > api.MaxName || !letter(s[0]) {
		return false
	}
	for i := range len(s) {
		if !letter(s[i]) && !digit(s[i]) && s[i] != '.' {
			return false
		}
	}
	return true
}

func letter(c byte) bool { return 'a' <= c && c <= 'z' }

func digit(c byte) bool { return '0' <= c && c <= '9' }

// Check returns what is wrong with a file: first its name, then its text.
func Check(f api.File) error {
	if !Name(f.Name) {
		return api.ErrShape
	}
	if len(f.Text) > api.MaxText {
		return api.ErrMany
	}
	return nil
}

// Get returns the text of the file with a name in a sorted list, and whether there is one.
func Get(l []api.File, name string) (string, bool) {
	at, found := place(l, name)
	if !found {
		return "", false
	}
	return l[at].Text, true
}

// Put returns a sorted list with a file inserted, in place of one with the same name.
func Put(l []api.File, f api.File) []api.File {
	before, after := around(l, f.Name)
	return slices.Concat(before, []api.File{f}, after)
}

// Drop returns a sorted list without the file with a name.
func Drop(l []api.File, name string) []api.File {
	before, after := around(l, name)
	return slices.Concat(before, after)
}

// around returns the parts of a sorted list whose names are less and greater than name.
func around(l []api.File, name string) (before, after []api.File) {
	at, found := place(l, name)
	if found {
		return l[:at], l[at+1:]
	}
	return l[:at], l[at:]
}

// place returns where a name is, or belongs, in a sorted list, and whether it is there.
func place(l []api.File, name string) (int, bool) {
	at := sort.Search(len(l), func(i int) bool { return l[i].Name >= name })
	return at, at < len(l) && l[at].Name == name
}

// Package overlay restricts which files a command sees, and holds what it wrote (doc/02-overlay.md).
package overlay

import (
	"slices"

	"hammerpond/api"
	"hammerpond/files"
)

// Overlay is a view of files in which only declared names can be read and written.
type Overlay struct {
	base           []api.File
	needs, targets []string
	own            []api.File // what was written, sorted
}

// New returns an overlay over sorted files in which nothing is written.
// The lists are copied, since the caller may change them later.
func New(base []api.File, needs, targets []string) *Overlay {
	return &Overlay{
		base:    slices.Clone(base),
		needs:   slices.Clone(needs),
		targets: slices.Clone(targets),
	}
}

// Read returns the text of a name. What was written can be read without being
// among needs, since it cannot come from an undeclared file.
func (o *Overlay) Read(name string) (string, error) {
	if text, found := files.Get(o.own, name); found {
		return text, nil
	}
	if !slices.Contains(o.needs, name) {
		return "", api.ErrBarred
	}
	text, found := files.Get(o.base, name)
	if !found {
		return "", api.ErrNone
	}
	return text, nil
}

// Write stores a text under a name, in place of an earlier one.
func (o *Overlay) Write(name, text string) error {
	if !slices.Contains(o.targets, name) {
		return api.ErrBarred
	}
	if len(text) > api.MaxText {
		return api.ErrMany
	}
	o.own = files.Put(o.own, api.File{Name: name, Text: text})
	return nil
}

// Own returns the files that were written, sorted.
func (o *Overlay) Own() []api.File {
	return slices.Clone(o.own)
}

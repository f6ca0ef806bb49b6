// Package recipe executes commands (doc/03-recipe.md).
package recipe

import (
	"slices"
	"strings"

	"hammerpond/api"
	"hammerpond/overlay"
)

// Run executes a command on an overlay.
func Run(o *overlay.Overlay, cmd string) error {
	w := strings.Split(cmd, " ")
	switch n := len(w); {
	case w[0] == "put" && n >= 3:
		return o.Write(w[1], strings.Join(w[2:], " "))
	case w[0] == "copy" && n == 3:
		return pass(o, w[1], w[2], func(s string) string { return s })
	case w[0] == "turn" && n == 3:
		return pass(o, w[1], w[2], turned)
	case w[0] == "swap" && n == 5 && len(w[3]) == 1 && len(w[4]) == 1:
		return pass(o, w[1], w[2], func(s string) string { return swapped(s, w[3][0], w[4][0]) })
	case w[0] == "join" && n >= 3:
		return join(o, w[1], w[2:])
	case w[0] == "need" && n == 2:
		return need(o, w[1])
	case w[0] == "fail" && n == 1:
		return api.ErrFail
	}
	return api.ErrText
}

// All executes the commands of a group over sorted files and returns the files
// that were written, sorted.
func All(base []api.File, g api.Group) ([]api.File, error) {
	o := overlay.New(base, g.Needs, g.Targets)
	for _, cmd := range g.Cmds {
		if err := Run(o, cmd); err != nil {
			return nil, err
		}
	}
	own := o.Own()
	if len(own) < len(g.Targets) {
		return nil, api.ErrNone
	}
	return own, nil
}

// pass writes to out what change makes of the text of in.
func pass(o *overlay.Overlay, in, out string, change func(string) string) error {
	text, err := o.Read(in)
	if err != nil {
		return err
	}
	return o.Write(out, change(text))
}

func turned(s string) string {
	b := []byte(s)
	slices.Reverse(b)
	return string(b)
}

func swapped(s string, x, y byte) string {
	b := []byte(s)
	for i := range b {
		if b[i] == x {
			b[i] = y
		}
	}
	return string(b)
}

func join(o *overlay.Overlay, out string, ins []string) error {
	whole := ""
	for _, in := range ins {
		text, err := o.Read(in)
		if err != nil {
			return err
		}
		// Write refuses a longer text anyway: a long command must not fill the memory.
		if len(whole) <= api.MaxText {
			whole += text
		}
	}
	return o.Write(out, whole)
}

func need(o *overlay.Overlay, in string) error {
	text, err := o.Read(in)
	if err != nil {
		return err
	}
	if text == "" {
		return api.ErrFail
	}
	return nil
}

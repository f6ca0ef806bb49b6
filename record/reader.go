package record

import (
	"strconv"
	"strings"

	"hammerpond/api"
	"hammerpond/files"
)

// reader reads the text of a record from the left. Once something was wrong, it
// stays bad, so that only the end of the reading needs to ask.
type reader struct {
	rest string
	bad  bool
}

func (in *reader) fail() {
	in.rest, in.bad = "", true
}

func (in *reader) expect(s string) {
	rest, found := strings.CutPrefix(in.rest, s)
	if !found {
		in.fail()
		return
	}
	in.rest = rest
}

// number reads a number of at most most.
func (in *reader) number(most int) int {
	after := strings.TrimLeft(in.rest, "0123456789")
	digits := in.rest[:len(in.rest)-len(after)]
	n, err := strconv.Atoi(digits)
	if err != nil || n > most || strconv.Itoa(n) != digits {
		in.fail()
		return 0
	}
	in.rest = after
	return n
}

// text reads a space, a length of at most most, and a text of this length.
func (in *reader) text(most int) string {
	in.expect(" ")
	n := in.number(most)
	in.expect(":")
	if n > len(in.rest) {
		in.fail()
		return ""
	}
	s := in.rest[:n]
	in.rest = in.rest[n:]
	return s
}

// files reads n valid files.
func (in *reader) files(n int) []api.File {
	var l []api.File
	for range n {
		in.expect(" ")
		end := max(strings.IndexByte(in.rest, ' '), 0)
		f := api.File{Name: in.rest[:end]}
		in.rest = in.rest[end:]
		f.Text = in.text(api.MaxText)
		if files.Check(f) != nil {
			in.fail()
		}
		l = append(l, f)
	}
	return l
}

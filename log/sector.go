package log

import (
	"hammerpond/api"
	"hammerpond/number"
)

// The kinds of sectors: one change, and the end of an entry.
const (
	one = "o"
	end = "c"
)

// blank is written to a sector at which a log shall end.
const blank = ""

// head is the number of bytes of a sector before its content.
const head = 7

// sector returns the bytes of a sector of a kind, with its number and content.
func sector(kind string, at int, data string) string {
	return kind + number.Bytes(uint64(at), 4) + number.Bytes(uint64(len(data)), 2) + data
}

// content returns the kind and the content of a sector with a number, or two empty
// texts if it is not written.
func content(s string, at int) (kind, data string) {
	kind = s[:1]
	size := number.Of(s[5:head])
	if kind != one && kind != end || s[1:5] != number.Bytes(uint64(at), 4) || size > api.Sector-head {
		return "", ""
	}
	return kind, s[head : head+size]
}

// count returns the content of the end of an entry of n changes.
func count(n int) string { return number.Bytes(uint64(n), 4) }

package store

import (
	"iter"
	"strings"

	"hammerpond/api"
	"hammerpond/disk"
	"hammerpond/number"
	"hammerpond/row"
)

// areaSectors is the number of sectors of an area. The largest rows that a store
// can have fill 20 of them and a part of another one.
const areaSectors = 21

// areaAt returns the first sector of an area.
func areaAt(area int) int { return headAt + 1 + area*areaSectors }

// rowHead is the number of bytes that tell the length of the encoding of a row.
const rowHead = 2

// writeRows writes rows to an area, durably, and returns the number of their bytes.
func writeRows(d *disk.Disk, area int, rows []api.Change) (int, error) {
	at, size := areaAt(area), 0
	for piece := range pieces(rows) {
		if err := d.Write(at, piece); err != nil {
			return 0, err
		}
		at++
		size += len(piece)
	}
	if err := d.Flush(); err != nil {
		return 0, err
	}
	return size, nil
}

// pieces yields the bytes of rows in pieces that fill a sector each, except for
// the last one.
func pieces(rows []api.Change) iter.Seq[string] {
	return func(yield func(string) bool) {
		rest := ""
		for _, c := range rows {
			s, _ := row.Bytes(c) // the rows of a store are valid
			rest += number.Bytes(uint64(len(s)), rowHead) + s
			for len(rest) >= api.Sector {
				if !yield(rest[:api.Sector]) {
					return
				}
				rest = rest[api.Sector:]
			}
		}
		if rest != "" {
			yield(rest)
		}
	}
}

// readRows returns the rows of the last checkpoint.
func readRows(d *disk.Disk, h head) ([]api.Change, error) {
	var b strings.Builder
	for at := areaAt(h.area); b.Len() < h.size; at++ {
		s, err := d.Read(at)
		if err != nil {
			return nil, err
		}
		b.WriteString(s)
	}
	return parseRows(b.String()[:h.size])
}

// parseRows returns the rows with the given bytes.
func parseRows(s string) ([]api.Change, error) {
	var rows []api.Change
	for s != "" {
		c, rest, err := cutRow(s)
		if err != nil {
			return nil, err
		}
		if n := len(rows); c.Gone || n > 0 && rows[n-1].Key >= c.Key {
			return nil, api.ErrText
		}
		rows = append(rows, c)
		s = rest
	}
	return rows, nil
}

// cutRow returns the row with which bytes begin, and the bytes after it.
func cutRow(s string) (api.Change, string, error) {
	if len(s) < rowHead {
		return api.Change{}, "", api.ErrText
	}
	end := rowHead + int(number.Of(s[:rowHead]))
	if len(s) < end {
		return api.Change{}, "", api.ErrText
	}
	c, err := row.Parse(s[rowHead:end])
	if err != nil {
		return api.Change{}, "", err
	}
	return c, s[end:], nil
}

package store

import (
	"strings"

	"hammerpond/api"
	"hammerpond/disk"
	"hammerpond/number"
)

// headAt is the sector of the head.
const headAt = 0

// magic begins the head, so that a disk without a store is recognized.
const magic = "hammerpond"

// head tells where the parts of a store are.
type head struct {
	area  int // 0 or 1: where the rows of the last checkpoint are
	size  int // the number of their bytes
	first int // the number of the first sector of the log
}

// writeHead writes the head of a store, durably.
func writeHead(d *disk.Disk, h head) error {
	s := magic + number.Bytes(uint64(h.area), 1) + number.Bytes(uint64(h.size), 2) + number.Bytes(uint64(h.first), 8)
	if err := d.Write(headAt, s); err != nil {
		return err
	}
	return d.Flush()
}

// readHead returns the head of a store.
func readHead(d *disk.Disk) (head, error) {
	s, err := d.Read(headAt)
	if err != nil {
		return head{}, err
	}
	s, found := strings.CutPrefix(s, magic)
	if !found || d.Sectors() < leastSectors {
		return head{}, api.ErrText
	}
	h := head{
		area:  int(number.Of(s[:1])),
		size:  int(number.Of(s[1:3])),
		first: int(number.Of(s[3:11])),
	}
	if h.area > 1 || h.size > areaSectors*api.Sector || h.first < 1 {
		return head{}, api.ErrText
	}
	return h, nil
}

package store_test

import (
	"math"
	"slices"
	"strings"
	"testing"

	"hammerpond/api"
	"hammerpond/disk"
	"hammerpond/log"
	"hammerpond/row"
	"hammerpond/store"
)

const (
	least    = 50
	logStart = 44
)

func put(key, val string) api.Change { return api.Change{Key: key, Val: val} }

func gone(key string) api.Change { return api.Change{Key: key, Gone: true} }

func list(l ...api.Change) []api.Change { return l }

func long(n int) string { return strings.Repeat("z", n) }

func newDisk(t *testing.T, n int) *disk.Disk {
	t.Helper()
	d, err := disk.New(n)
	if err != nil {
		t.Fatal(err)
	}
	return d
}

func open(t *testing.T, d *disk.Disk) *store.Store {
	t.Helper()
	s, err := store.Open(d)
	if err != nil || s == nil {
		t.Fatalf("Open: %v", err)
	}
	return s
}

// fresh returns a disk with an empty store, and the store.
func fresh(t *testing.T, n int) (*disk.Disk, *store.Store) {
	t.Helper()
	d := newDisk(t, n)
	if err := store.Format(d); err != nil {
		t.Fatalf("Format: %v", err)
	}
	return d, open(t, d)
}

func expectNoStore(t *testing.T, d *disk.Disk, want error) {
	t.Helper()
	if s, err := store.Open(d); s != nil || err != want {
		t.Errorf("Open: %v, %v, wanted %v", s, err, want)
	}
}

func expectStore(t *testing.T, s *store.Store, room int, rows ...api.Change) {
	t.Helper()
	if got := s.Rows(); !slices.Equal(got, rows) {
		t.Errorf("%v, wanted %v", got, rows)
	}
	if s.Room() != room {
		t.Errorf("room %d, wanted %d", s.Room(), room)
	}
}

func expectCommit(t *testing.T, s *store.Store, want error, l ...api.Change) {
	t.Helper()
	if err := s.Commit(l); err != want {
		t.Errorf("Commit(%v): %v, wanted %v", l, err, want)
	}
}

func expectCheckpoint(t *testing.T, s *store.Store, want error) {
	t.Helper()
	if err := s.Checkpoint(); err != want {
		t.Errorf("Checkpoint: %v, wanted %v", err, want)
	}
}

// rows returns n rows of the given kind with values of the given size, sorted.
func rows(key func(string) string, n, size int) []api.Change {
	var l []api.Change
	for i := range n {
		l = append(l, put(key("abcdefg"+string(rune('a'+i))), strings.Repeat(string(rune('A'+i)), size)))
	}
	return l
}

// largest returns the rows of a store that can't be larger.
func largest() []api.Change {
	return slices.Concat(rows(row.Made, api.MaxFiles, api.MaxKeep), rows(row.File, api.MaxFiles, api.MaxText))
}

// M1.

func TestFormat(t *testing.T) {
	for _, n := range []int{least, least + 1, 80, api.Sectors} {
		d, s := fresh(t, n)
		expectStore(t, s, n-logStart)
		d.Restart(0)
		expectStore(t, open(t, d), n-logStart)
	}
}

func TestFormatErrors(t *testing.T) {
	for _, n := range []int{1, 43, 44, 45, least - 1} {
		d := newDisk(t, n)
		if err := store.Format(d); err != api.ErrFull {
			t.Errorf("%d sectors: %v", n, err)
		}
		expectNoStore(t, d, api.ErrText)
		d.Arm(0)
		if err := store.Format(d); err != api.ErrFull {
			t.Errorf("%d sectors: %v", n, err)
		}
		d.Flush()
		if err := store.Format(d); err != api.ErrFull {
			t.Errorf("%d sectors, down: %v", n, err)
		}
		expectNoStore(t, d, api.ErrDown)
	}
	d := newDisk(t, least)
	d.Arm(0)
	for range 2 {
		if err := store.Format(d); err != api.ErrDown {
			t.Error(err)
		}
	}
	expectNoStore(t, d, api.ErrDown)
	d.Restart(0)
	expectNoStore(t, d, api.ErrText)
}

func TestNoStore(t *testing.T) {
	for _, n := range []int{1, 49, 50, 120} {
		d := newDisk(t, n)
		expectNoStore(t, d, api.ErrText)
		for at := range n {
			d.Write(at, long(api.Sector))
		}
		expectNoStore(t, d, api.ErrText)
	}
	d, _ := fresh(t, 60)
	for at := range logStart {
		d.Write(at, "")
	}
	expectNoStore(t, d, api.ErrText)
}

// A disk may have the sectors of a store and be too small for it.
func TestStoreOnSmallDisk(t *testing.T) {
	d, _ := fresh(t, least)
	for _, n := range []int{1, 20, 44, 45, 49} {
		small := newDisk(t, n)
		for at := range n {
			s, _ := d.Read(at)
			small.Write(at, s)
		}
		expectNoStore(t, small, api.ErrText)
	}
}

func TestFormatOverStore(t *testing.T) {
	d, s := fresh(t, 70)
	for i := range 10 {
		for range i {
			expectCommit(t, s, nil, put("f/a", "1"), put("d/b", "2"))
			if i%2 == 1 {
				expectCheckpoint(t, s, nil)
			}
			if i%3 == 1 {
				expectCommit(t, s, nil, put("f/c", "3"))
			}
		}
		if err := store.Format(d); err != nil {
			t.Fatal(err)
		}
		d.Restart(0)
		s = open(t, d)
		expectStore(t, s, 26)
	}
}

// Whatever the sectors of the log contain, it is empty, and what is committed is
// all there is.
func TestFormatOverEntries(t *testing.T) {
	for first := 1; first <= 5; first++ {
		d := newDisk(t, 60)
		l, _, err := log.Open(d, logStart, 16, first)
		if err != nil {
			t.Fatal(err)
		}
		for range 4 {
			if err := l.Add(list(put("f/old", "1"), put("f/older", "2"))); err != nil {
				t.Fatal(err)
			}
		}
		if err := store.Format(d); err != nil {
			t.Fatal(err)
		}
		s := open(t, d)
		expectStore(t, s, 16)
		expectCommit(t, s, nil, put("f/a", "1"))
		d.Restart(0)
		expectStore(t, open(t, d), 14, put("f/a", "1"))
	}
}

// A disk that fails while it is formatted has what it had, or an empty store.
func TestFormatOnFailingDisk(t *testing.T) {
	empty, old := 0, 0
	for steps, failed := 0, true; failed; steps++ {
		for keep := range uint64(16) {
			d, s := fresh(t, 60)
			expectCommit(t, s, nil, put("f/a", "1"))
			expectCheckpoint(t, s, nil)
			expectCommit(t, s, nil, put("f/b", "2"))
			d.Write(logStart+5, "x")
			d.Arm(steps)
			err := store.Format(d)
			failed = err == api.ErrDown
			if failed != d.Down() || !failed && err != nil {
				t.Fatal(err)
			}
			d.Restart(keep)
			switch got := open(t, d).Rows(); {
			case len(got) == 0:
				empty++
			case slices.Equal(got, list(put("f/a", "1"), put("f/b", "2"))) && failed:
				old++
			default:
				t.Errorf("%d steps, keep %b: %v", steps, keep, got)
			}
		}
	}
	if empty == 0 || old == 0 {
		t.Error(empty, old)
	}
}

// An earlier log that only a write hides which is not durable stays hidden.
func TestFormatOverHiddenEntriesOnFailingDisk(t *testing.T) {
	for steps, failed := 0, true; failed; steps++ {
		for keep := range uint64(16) {
			for first := 1; first <= 2; first++ {
				failed = formatOverHidden(t, first, steps, keep)
			}
		}
	}
}

// formatOverHidden formats such a disk, which fails after some steps, and reports
// whether it failed.
func formatOverHidden(t *testing.T, first, steps int, keep uint64) bool {
	t.Helper()
	d := newDisk(t, 60)
	l, _, err := log.Open(d, logStart, 16, first)
	if err != nil {
		t.Fatal(err)
	}
	if err := l.Add(list(put("f/old", "1"))); err != nil {
		t.Fatal(err)
	}
	d.Write(logStart, "")
	d.Arm(steps)
	failed := store.Format(d) != nil
	d.Restart(keep)
	if s, err := store.Open(d); err == nil {
		expectStore(t, s, 16)
	} else if !failed {
		t.Error(err)
	}
	return failed
}

func TestRows(t *testing.T) {
	d, s := fresh(t, 60)
	want := list(put("d/a", "3"), put("d/z", ""), put("f/a", "2"), put("f/b", "1"))
	expectCommit(t, s, nil, put("f/b", "1"), put("d/z", ""), put("f/a", "2"), put("d/a", "3"))
	for range 2 {
		got := s.Rows()
		if !slices.Equal(got, want) {
			t.Errorf("%v, wanted %v", got, want)
		}
		clear(got)
	}
	clear(open(t, d).Rows())
	expectStore(t, open(t, d), 11, want...)
}

func TestOpenOfDownDisk(t *testing.T) {
	d, s := fresh(t, 60)
	expectCommit(t, s, nil, put("f/a", "1"))
	// To open is not a step.
	d.Arm(0)
	expectStore(t, open(t, d), 14, put("f/a", "1"))
	d.Flush()
	expectNoStore(t, d, api.ErrDown)
	d.Restart(0)
	expectStore(t, open(t, d), 14, put("f/a", "1"))
}

// The log of the store is one that package log can read.
func TestLogOfStore(t *testing.T) {
	d, s := fresh(t, 60)
	for range 3 {
		expectCheckpoint(t, s, nil)
		expectCommit(t, s, nil, put("f/a", "1"), gone("f/b"))
		expectCommit(t, s, nil)
		expectCommit(t, s, nil, put("d/a", "2"))
		got, _ := d.Read(logStart)
		first := int(got[1]) | int(got[2])<<8 | int(got[3])<<16 | int(got[4])<<24
		l, entries, err := log.Open(d, logStart, 16, first)
		if err != nil || l.Room() != 10 || len(entries) != 3 {
			t.Fatal(entries, err)
		}
		for i, want := range [][]api.Change{list(put("f/a", "1"), gone("f/b")), nil, list(put("d/a", "2"))} {
			if !slices.Equal(entries[i], want) {
				t.Errorf("%v, wanted %v", entries[i], want)
			}
		}
	}
}

// What is not a store is not opened, and does no harm.
func TestOpenOfDamagedHead(t *testing.T) {
	for at := range 24 {
		for _, value := range []byte{0, 1, 2, 0x7f, 0x80, 0xff} {
			d, s := fresh(t, least)
			expectCommit(t, s, nil, put("f/a", "1"))
			expectCheckpoint(t, s, nil)
			head, _ := d.Read(0)
			b := []byte(head)
			b[at] = value
			d.Write(0, string(b))
			damaged, err := store.Open(d)
			if err != nil {
				if err != api.ErrText || damaged != nil {
					t.Errorf("%d, %d: %v, %v", at, value, damaged, err)
				}
				continue
			}
			damaged.Rows()
			damaged.Commit(list(put("f/b", "1")))
			damaged.Checkpoint()
		}
	}
}

func TestOpenOfDamagedRows(t *testing.T) {
	for _, value := range []byte{0, 1, 2, 5, 7, 'a', 'z', 0xff} {
		for at := range 40 {
			d, s := fresh(t, least)
			expectCommit(t, s, nil, put("d/m", "1"), put("f/b", "2"), put("f/c", "3"))
			expectCheckpoint(t, s, nil)
			for sector := 1; sector < logStart; sector++ {
				text, _ := d.Read(sector)
				b := []byte(text)
				b[at] = value
				d.Write(sector, string(b))
			}
			damaged, err := store.Open(d)
			if err != nil {
				if err != api.ErrText || damaged != nil {
					t.Errorf("%d, %d: %v, %v", at, value, damaged, err)
				}
				continue
			}
			got := damaged.Rows()
			for i, c := range got {
				if row.Check(c) != nil || c.Gone || i > 0 && got[i-1].Key >= c.Key {
					t.Errorf("%d, %d: %v", at, value, got)
				}
			}
		}
	}
}

// More rows than a store can have are none.
func TestOpenOfTooManyRows(t *testing.T) {
	for _, key := range []func(string) string{row.File, row.Made} {
		d, s := fresh(t, 80)
		expectCommit(t, s, nil, rows(key, api.MaxFiles, 1)...)
		head, _ := d.Read(logStart)
		l, _, err := log.Open(d, logStart, 36, int(head[1]))
		if err != nil {
			t.Fatal(err)
		}
		if err := l.Add(list(put(key("one"), "1"))); err != nil {
			t.Fatal(err)
		}
		expectNoStore(t, d, api.ErrText)
	}
}

// M2.

func TestCommit(t *testing.T) {
	d, s := fresh(t, 60)
	expectCommit(t, s, nil, put("f/b", "2"), put("f/a", "1"))
	expectStore(t, s, 13, put("f/a", "1"), put("f/b", "2"))
	expectCommit(t, s, nil)
	expectStore(t, s, 12, put("f/a", "1"), put("f/b", "2"))
	expectCommit(t, s, nil, gone("f/a"), gone("f/c"), put("d/b", "x"))
	expectStore(t, s, 8, put("d/b", "x"), put("f/b", "2"))
	expectCommit(t, s, nil, put("f/b", "3"), gone("f/b"), put("f/b", "4"))
	expectStore(t, s, 4, put("d/b", "x"), put("f/b", "4"))
	d.Restart(0)
	s = open(t, d)
	expectStore(t, s, 4, put("d/b", "x"), put("f/b", "4"))
	expectCommit(t, s, nil, put("f/a", "1"), put("f/c", "3"), put("f/d", "4"))
	expectStore(t, s, 0, put("d/b", "x"), put("f/a", "1"), put("f/b", "4"), put("f/c", "3"), put("f/d", "4"))
	d.Restart(0)
	expectStore(t, open(t, d), 0, put("d/b", "x"), put("f/a", "1"), put("f/b", "4"), put("f/c", "3"), put("f/d", "4"))
}

// Without enough room, there is a checkpoint first.
func TestCommitWithoutRoom(t *testing.T) {
	d, s := fresh(t, least)
	expectCommit(t, s, nil, put("f/a", "1"), put("f/b", "2"), put("f/c", "3"))
	expectStore(t, s, 2, put("f/a", "1"), put("f/b", "2"), put("f/c", "3"))
	expectCommit(t, s, nil, gone("f/a"), put("f/b", "x"))
	expectStore(t, s, 3, put("f/b", "x"), put("f/c", "3"))
	expectStore(t, open(t, d), 3, put("f/b", "x"), put("f/c", "3"))
	expectCommit(t, s, nil, gone("f/b"), gone("f/c"))
	expectStore(t, s, 0)
	expectCommit(t, s, nil)
	expectStore(t, s, 5)
	d.Restart(0)
	expectStore(t, open(t, d), 5)
	// All sectors of the log.
	expectCommit(t, s, nil, rows(row.File, 5, 1)...)
	expectStore(t, s, 0, rows(row.File, 5, 1)...)
	expectCommit(t, s, nil, rows(row.File, 5, 2)...)
	expectStore(t, s, 0, rows(row.File, 5, 2)...)
	d.Restart(0)
	expectStore(t, open(t, d), 0, rows(row.File, 5, 2)...)
}

func TestCommitErrors(t *testing.T) {
	d, s := fresh(t, least)
	expectCommit(t, s, nil, put("f/a", "1"))
	check := func() {
		expectCommit(t, s, api.ErrMany, make([]api.Change, api.MaxChanges+1)...)
		expectCommit(t, s, api.ErrMany, slices.Repeat(list(put("f/a", "1")), api.MaxChanges+1)...)
		expectCommit(t, s, api.ErrShape, make([]api.Change, api.MaxChanges)...)
		expectCommit(t, s, api.ErrShape, put("f/A", "1"))
		expectCommit(t, s, api.ErrShape, api.Change{Key: "f/a", Val: "x", Gone: true})
		expectCommit(t, s, api.ErrMany, put("f/a", long(api.MaxText+1)), put("f/A", "1"))
		expectCommit(t, s, api.ErrShape, put("f/b", "1"), put("f/A", "1"), put("f/a", long(api.MaxText+1)))
		expectCommit(t, s, api.ErrMany, put("f/b", "1"), put("d/a", long(api.MaxKeep+1)))
		// The changes are looked at before the room.
		expectCommit(t, s, api.ErrShape, append(rows(row.File, 6, 1), put("f/A", "1"))...)
		expectCommit(t, s, api.ErrFull, rows(row.File, 6, 1)...)
		expectCommit(t, s, api.ErrFull, slices.Repeat(list(gone("f/b")), 6)...)
	}
	check()
	expectStore(t, s, 4, put("f/a", "1"))
	expectStore(t, open(t, d), 4, put("f/a", "1"))
	d.Arm(0)
	expectCommit(t, s, api.ErrDown, put("f/b", "1"))
	check()
	expectCommit(t, s, api.ErrDown, put("f/b", "1"))
	expectCommit(t, s, api.ErrDown)
	expectCommit(t, s, api.ErrDown, rows(row.File, 5, 1)...)
	d.Restart(0)
	expectStore(t, open(t, d), 4, put("f/a", "1"))
}

func TestCommitTooManyRows(t *testing.T) {
	for _, x := range []struct{ key, other func(string) string }{{row.File, row.Made}, {row.Made, row.File}} {
		d, s := fresh(t, api.Sectors)
		all := rows(x.key, api.MaxFiles, 1)
		expectCommit(t, s, api.ErrFull, append(all, put(x.key("one"), ""))...)
		expectStore(t, s, 76)
		expectCommit(t, s, nil, all...)
		expectCommit(t, s, api.ErrFull, put(x.key("one"), ""))
		expectCommit(t, s, api.ErrFull, put(x.key("one"), ""), gone(x.other("one")))
		expectStore(t, s, 55, all...)
		// What counts is what there is in the end.
		expectCommit(t, s, nil, put(x.key("one"), ""), gone(all[3].Key))
		expectCommit(t, s, nil, put(x.key("two"), ""), gone(x.key("two")))
		expectCommit(t, s, nil, put(x.key("one"), "1"))
		all[3] = put(x.key("one"), "1")
		slices.SortFunc(all, func(a, b api.Change) int { return strings.Compare(a.Key, b.Key) })
		expectStore(t, s, 47, all...)
		// The others are counted by themselves.
		expectCommit(t, s, nil, rows(x.other, api.MaxFiles, 1)...)
		expectCommit(t, s, api.ErrFull, put(x.other("one"), ""))
		expectCommit(t, s, api.ErrFull, put(x.key("two"), ""))
		if n := len(open(t, d).Rows()); n != 2*api.MaxFiles {
			t.Error(n)
		}
	}
}

func TestCommitLeavesItsArguments(t *testing.T) {
	d, s := fresh(t, 60)
	l := list(put("f/b", "1"), put("f/a", "2"), put("f/c", "behind"))
	expectCommit(t, s, nil, l[:2]...)
	if !slices.Equal(l, list(put("f/b", "1"), put("f/a", "2"), put("f/c", "behind"))) {
		t.Error(l)
	}
	clear(l)
	expectStore(t, s, 13, put("f/a", "2"), put("f/b", "1"))
	expectStore(t, open(t, d), 13, put("f/a", "2"), put("f/b", "1"))
}

// M3.

func TestCheckpoint(t *testing.T) {
	d, s := fresh(t, 60)
	expectCheckpoint(t, s, nil)
	expectStore(t, s, 16)
	expectStore(t, open(t, d), 16)
	expectCommit(t, s, nil, put("f/a", "1"), put("d/b", "2"))
	for range 3 {
		expectCheckpoint(t, s, nil)
		expectStore(t, s, 16, put("d/b", "2"), put("f/a", "1"))
		d.Restart(0)
		s = open(t, d)
		expectStore(t, s, 16, put("d/b", "2"), put("f/a", "1"))
	}
	expectCommit(t, s, nil, gone("d/b"))
	expectStore(t, open(t, d), 14, put("f/a", "1"))
	expectCheckpoint(t, s, nil)
	expectCommit(t, s, nil, gone("f/a"))
	expectStore(t, open(t, d), 14)
	expectCheckpoint(t, s, nil)
	d.Restart(0)
	expectStore(t, open(t, d), 16)
	d.Arm(0)
	expectCheckpoint(t, s, api.ErrDown)
	expectCheckpoint(t, s, api.ErrDown)
}

func TestCheckpointOfLargestStore(t *testing.T) {
	d, s := fresh(t, api.Sectors)
	all := largest()
	expectCommit(t, s, nil, all...)
	expectStore(t, s, 35, all...)
	for range 3 {
		expectCheckpoint(t, s, nil)
		expectStore(t, s, 76, all...)
		d.Restart(0)
		s = open(t, d)
		expectStore(t, s, 76, all...)
		expectCommit(t, s, nil, put(all[0].Key, "new"))
		expectStore(t, open(t, d), 74, append(list(put(all[0].Key, "new")), all[1:]...)...)
		expectCommit(t, s, nil, all[0])
	}
}

// The rows of a checkpoint may end anywhere in a sector.
func TestCheckpointOfAllSizes(t *testing.T) {
	d, s := fresh(t, least)
	for size := range api.MaxKeep {
		want := list(put("d/a", long(size)), put("d/b", long(size)), put("d/c", long(size/2)))
		expectCommit(t, s, nil, want...)
		expectCheckpoint(t, s, nil)
		expectStore(t, open(t, d), 6, want...)
	}
}

// The log begins again under numbers that its sectors do not have, however often.
func TestManyCheckpoints(t *testing.T) {
	d, s := fresh(t, least)
	expectCommit(t, s, nil, put("f/a", "1"))
	for i := range 2000 {
		expectCheckpoint(t, s, nil)
		if i%7 == 3 {
			expectCommit(t, s, nil, put("f/a", string(rune('0'+i%10))))
		}
	}
	last := s.Rows()
	d.Restart(0)
	if got := open(t, d).Rows(); !slices.Equal(got, last) {
		t.Errorf("%v, wanted %v", got, last)
	}
}

// M4.

// step is a commit, or a checkpoint if there is none.
type step struct{ commit []api.Change }

// run performs steps on a store until the disk fails. It returns the rows of
// what was committed, and these with the commit that was in progress.
func run(t *testing.T, s *store.Store, steps []step) (before, after []api.Change, err error) {
	t.Helper()
	before = s.Rows()
	for _, x := range steps {
		after = before
		if x.commit == nil {
			err = s.Checkpoint()
		} else {
			after = row.Apply(before, x.commit)
			err = s.Commit(x.commit)
		}
		if err != nil {
			return before, after, err
		}
		before = after
	}
	return before, before, nil
}

// expectOneOf checks that a failed disk has a store with one of two lists of
// rows that can be used, and returns it.
func expectOneOf(t *testing.T, d *disk.Disk, before, after []api.Change) *store.Store {
	t.Helper()
	s := open(t, d)
	if got := s.Rows(); !slices.Equal(got, before) && !slices.Equal(got, after) {
		t.Fatalf("%v, wanted %v or %v", got, before, after)
	}
	return s
}

// keeps are some ways to keep the writes of a failing disk.
func keeps() []uint64 {
	l := []uint64{0, math.MaxUint64, 0x5555555555555555, 0xaaaaaaaaaaaaaaaa, 0x123456789abcdef}
	for bit := range 8 {
		l = append(l, 1<<bit, ^uint64(1<<bit))
	}
	return l
}

func TestEveryFailure(t *testing.T) {
	big := func(c string) []api.Change {
		return list(put("d/a", strings.Repeat(c, api.MaxKeep)), put("d/b", strings.Repeat(c, 290)), put("f/a", c))
	}
	steps := []step{
		{list(put("f/a", "1"), put("f/b", "2"))},
		{list(put("d/a", "x"), gone("f/a"))},
		{big("p")}, // there is no room: a checkpoint
		{nil},
		{big("q")},
		{list()},
		{list(gone("d/a"))},
		{list(gone("f/a"), put("f/b", "3"), gone("d/b"), put("f/c", ""))},
		{nil},
		{nil},
		{list(put("f/a", "4"))},
	}
	for n, failed := 0, true; failed; n++ {
		for _, keep := range keeps() {
			d, s := fresh(t, least)
			d.Arm(n)
			before, after, err := run(t, s, steps)
			failed = err != nil
			if failed && (err != api.ErrDown || !d.Down()) {
				t.Fatal(err)
			}
			d.Restart(keep)
			s = expectOneOf(t, d, before, after)
			// It goes on as if nothing had happened, even if it fails again.
			d.Arm(n % 11)
			before, after, _ = run(t, s, steps[:4])
			d.Restart(keep >> 1)
			s = expectOneOf(t, d, before, after)
			before, _, err = run(t, s, steps)
			if err != nil {
				t.Fatal(err)
			}
			d.Restart(0)
			expectOneOf(t, d, before, before)
		}
	}
}

// chance returns numbers that are always the same.
type chance uint64

func (c *chance) next(n int) int {
	*c = *c*6364136223846793005 + 1442695040888963407
	return int(*c>>33) % n
}

// change returns a change of one of a few rows.
func (c *chance) change() api.Change {
	name := string(rune('a' + c.next(api.MaxFiles)))
	switch c.next(5) {
	case 0:
		return gone(row.File(name))
	case 1:
		return gone(row.Made(name))
	case 2:
		return put(row.File(name), strings.Repeat("t", c.next(api.MaxText+1)))
	default:
		return put(row.Made(name), strings.Repeat("k", c.next(api.MaxKeep+1)))
	}
}

// Many commits on a disk that fails often lose nothing.
func TestManyFailures(t *testing.T) {
	for _, sectors := range []int{least, 57, api.Sectors} {
		c := chance(1)
		d, s := fresh(t, sectors)
		for range 4000 {
			x := step{}
			if c.next(10) > 0 {
				x.commit = list()
				for range c.next(min(sectors-logStart, 12)) {
					x.commit = append(x.commit, c.change())
				}
			}
			if c.next(3) == 0 {
				d.Arm(c.next(30))
			}
			before, after, err := run(t, s, []step{x})
			if err != nil && err != api.ErrDown {
				t.Fatal(err)
			}
			if err == nil && c.next(4) > 0 {
				continue
			}
			d.Restart(uint64(c) ^ uint64(c)<<29)
			s = expectOneOf(t, d, before, after)
		}
	}
}

package log_test

import (
	"math"
	"reflect"
	"slices"
	"strings"
	"testing"

	"hammerpond/api"
	"hammerpond/disk"
	"hammerpond/log"
)

func put(key, val string) api.Change { return api.Change{Key: key, Val: val} }

func gone(key string) api.Change { return api.Change{Key: key, Gone: true} }

func list(l ...api.Change) []api.Change { return l }

func newDisk(t *testing.T, n int) *disk.Disk {
	t.Helper()
	d, err := disk.New(n)
	if err != nil {
		t.Fatal(err)
	}
	return d
}

// write writes sectors from one of the disk on, durably.
func write(t *testing.T, d *disk.Disk, at int, sectors ...string) {
	t.Helper()
	for i, s := range sectors {
		if err := d.Write(at+i, s); err != nil {
			t.Fatal(err)
		}
	}
	if err := d.Flush(); err != nil {
		t.Fatal(err)
	}
}

func open(t *testing.T, d *disk.Disk, from, many, first int) (*log.Log, [][]api.Change) {
	t.Helper()
	l, entries, err := log.Open(d, from, many, first)
	if err != nil || l == nil {
		t.Fatalf("Open(%d, %d, %d): %v", from, many, first, err)
	}
	return l, entries
}

func equal(a, b [][]api.Change) bool {
	return slices.EqualFunc(a, b, func(x, y []api.Change) bool { return slices.Equal(x, y) })
}

func expectLog(t *testing.T, d *disk.Disk, from, many, first, room int, want ...[]api.Change) {
	t.Helper()
	l, entries := open(t, d, from, many, first)
	if !equal(entries, want) {
		t.Errorf("%v, wanted %v", entries, want)
	}
	if l.Room() != room || l.Next() != first+many {
		t.Errorf("room %d, next %d, wanted %d, %d", l.Room(), l.Next(), room, first+many)
	}
}

func expectAdd(t *testing.T, l *log.Log, c []api.Change, want error) {
	t.Helper()
	if err := l.Add(c); err != want {
		t.Errorf("Add(%v): %v, wanted %v", c, err, want)
	}
}

// raw returns the bytes of a sector, written another way than the log does it.
func raw(kind byte, number int, data string) string {
	return string([]byte{kind, byte(number), byte(number >> 8), byte(number >> 16), byte(number >> 24), byte(len(data)), byte(len(data) >> 8)}) + data
}

// L1.

func TestEmpty(t *testing.T) {
	d := newDisk(t, 10)
	expectLog(t, d, 0, 10, 1, 10)
	expectLog(t, d, 9, 1, 1, 1)
	expectLog(t, d, 3, 4, 100, 4)
}

func TestOpenErrors(t *testing.T) {
	d := newDisk(t, 10)
	bad := [][3]int{
		{-1, 1, 1}, {math.MinInt, 1, 1}, {0, 0, 1}, {0, -1, 1}, {0, math.MinInt, 1}, {0, 1, 0}, {0, 1, -1}, {0, 1, math.MinInt},
		{0, 11, 1}, {1, 10, 1}, {9, 2, 1}, {10, 1, 1}, {11, 1, 1}, {math.MaxInt, 1, 1}, {0, math.MaxInt, 1}, {5, math.MaxInt, 1},
		{math.MaxInt, math.MaxInt, 1}, {1, math.MaxInt - 1, 1}, {-1, 0, 0},
	}
	check := func(x [3]int, want error) {
		if l, entries, err := log.Open(d, x[0], x[1], x[2]); l != nil || len(entries) != 0 || err != want {
			t.Errorf("%v: %v, %v, %v, wanted %v", x, l, entries, err, want)
		}
	}
	for _, x := range bad {
		check(x, api.ErrBound)
	}
	write(t, d, 0, raw('c', 1, "\x00\x00\x00\x00"))
	d.Arm(0)
	expectLog(t, d, 0, 10, 1, 9, nil)
	d.Flush()
	for _, x := range bad {
		check(x, api.ErrBound)
	}
	check([3]int{0, 10, 1}, api.ErrDown)
	check([3]int{9, 1, 7}, api.ErrDown)
}

func TestFormat(t *testing.T) {
	d := newDisk(t, 10)
	l, _ := open(t, d, 2, 7, 0x01020304)
	long := strings.Repeat("z", api.MaxKeep)
	expectAdd(t, l, list(put("f/a", "1"), gone("d/abcdefgh"), put("d/abcdefgh", long)), nil)
	expectAdd(t, l, nil, nil)
	expectAdd(t, l, list(put("f/b", "")), nil)
	for at, want := range []string{
		"", "",
		"o\x04\x03\x02\x01\x06\x00\x00\x03f/a1",
		"o\x05\x03\x02\x01\x0c\x00\x01\x0ad/abcdefgh",
		"o\x06\x03\x02\x01\x38\x01\x00\x0ad/abcdefgh" + long,
		"c\x07\x03\x02\x01\x04\x00\x03\x00\x00\x00",
		"c\x08\x03\x02\x01\x04\x00\x00\x00\x00\x00",
		"o\x09\x03\x02\x01\x05\x00\x00\x03f/b",
		"c\x0a\x03\x02\x01\x04\x00\x01\x00\x00\x00",
		"",
	} {
		if got, err := d.Read(at); got != want+strings.Repeat("\x00", api.Sector-len(want)) || err != nil {
			t.Errorf("sector %d: %q, %v", at, got, err)
		}
	}
}

func TestNumberModulo(t *testing.T) {
	for _, first := range []int{1, 0xfffffffe, 1 << 32, 1<<32 + 5, 0x1122334455667788, math.MaxInt - 6} {
		d := newDisk(t, 6)
		l, _ := open(t, d, 0, 6, first)
		expectAdd(t, l, list(put("f/a", "1"), put("f/b", "2")), nil)
		expectAdd(t, l, list(gone("f/a")), nil)
		expectLog(t, d, 0, 6, first, 1, list(put("f/a", "1"), put("f/b", "2")), list(gone("f/a")))
		for i, kind := range []byte("oococ") {
			if got, _ := d.Read(i); !strings.HasPrefix(got, raw(kind, first+i, "")[:5]) {
				t.Errorf("number %d: %q", first+i, got[:7])
			}
		}
		if first > 1<<32 {
			expectLog(t, d, 0, 6, first-1<<32, 1, list(put("f/a", "1"), put("f/b", "2")), list(gone("f/a")))
			expectLog(t, d, 0, 6, first-1<<31, 6)
		}
	}
}

// What is no sector of the log ends it.
func TestOpenEnds(t *testing.T) {
	a, b := "\x00\x03f/a1", "\x01\x03f/b"
	one, two := list(put("f/a", "1")), list(put("f/a", "1"), gone("f/b"))
	whole := func(n int) string { return string([]byte{byte(n), 0, 0, 0}) }
	for i, x := range []struct {
		sectors []string
		want    [][]api.Change
		room    int
	}{
		{[]string{raw('o', 5, a), raw('c', 6, whole(1))}, [][]api.Change{one}, 4},
		{[]string{raw('o', 5, a), raw('o', 6, b), raw('c', 7, whole(2)), raw('o', 8, a), raw('c', 9, whole(1)), raw('c', 10, whole(0))}, [][]api.Change{two, one, nil}, 0},
		{[]string{raw('c', 5, whole(0)), raw('c', 6, whole(0))}, [][]api.Change{nil, nil}, 4},
		// What follows the content does not matter.
		{[]string{raw('o', 5, a) + "rest", raw('c', 6, whole(1)) + strings.Repeat("c", 300)}, [][]api.Change{one}, 4},
		// Changes without an end.
		{[]string{raw('o', 5, a), raw('o', 6, a), raw('o', 7, a), raw('o', 8, a), raw('o', 9, a), raw('o', 10, a)}, nil, 6},
		{[]string{raw('c', 5, whole(0)), raw('o', 6, a)}, [][]api.Change{nil}, 5},
		{[]string{raw('o', 5, a), raw('c', 6, whole(1)), raw('o', 7, a), "", raw('c', 9, whole(1))}, [][]api.Change{one}, 4},
		// The wrong number, or the wrong kind.
		{[]string{raw('o', 6, a), raw('c', 7, whole(1))}, nil, 6},
		{[]string{raw('o', 5, a), raw('c', 5, whole(1))}, nil, 6},
		{[]string{raw('o', 5, a), raw('c', 6+1<<8, whole(1))}, nil, 6},
		{[]string{raw('o', 5, a), raw('c', 6+1<<16, whole(1))}, nil, 6},
		{[]string{raw('o', 5, a), raw('c', 6+1<<24, whole(1))}, nil, 6},
		{[]string{raw('O', 5, a), raw('c', 6, whole(1))}, nil, 6},
		{[]string{raw('o', 5, a), raw('C', 6, whole(1))}, nil, 6},
		{[]string{"", raw('o', 6, a), raw('c', 7, whole(1))}, nil, 6},
		{[]string{raw('x', 5, a), raw('o', 6, a), raw('c', 7, whole(1))}, nil, 6},
		{[]string{raw('c', 5, whole(0)), raw('x', 6, whole(0)), raw('c', 7, whole(0))}, [][]api.Change{nil}, 5},
		// What is not a change.
		{[]string{raw('o', 5, ""), raw('c', 6, whole(1))}, nil, 6},
		{[]string{raw('o', 5, ""), raw('c', 6, whole(0))}, nil, 6},
		{[]string{raw('o', 5, "\x00\x03f/A1"), raw('c', 6, whole(1))}, nil, 6},
		{[]string{raw('o', 5, b+"x"), raw('c', 6, whole(1))}, nil, 6},
		{[]string{raw('o', 5, a), raw('o', 6, "f/a"), raw('c', 7, whole(1))}, nil, 6},
		// Not the number of changes.
		{[]string{raw('o', 5, a), raw('c', 6, whole(0))}, nil, 6},
		{[]string{raw('o', 5, a), raw('c', 6, whole(2))}, nil, 6},
		{[]string{raw('o', 5, a), raw('c', 6, whole(0)), raw('c', 7, whole(1))}, nil, 6},
		{[]string{raw('o', 5, a), raw('c', 6, whole(1)), raw('o', 7, a), raw('c', 8, whole(2))}, [][]api.Change{one}, 4},
		{[]string{raw('c', 5, whole(1))}, nil, 6},
		{[]string{raw('o', 5, a), raw('c', 6, "\x01")}, nil, 6},
		{[]string{raw('o', 5, a), raw('c', 6, "\x01\x00\x00")}, nil, 6},
		{[]string{raw('o', 5, a), raw('c', 6, "\x01\x00\x00\x00\x00")}, nil, 6},
		{[]string{raw('o', 5, a), raw('c', 6, "\x01\x00\x00\x01")}, nil, 6},
		{[]string{raw('o', 5, a), raw('c', 6, "")}, nil, 6},
		{[]string{raw('c', 5, "")}, nil, 6},
	} {
		d := newDisk(t, 9)
		write(t, d, 2, x.sectors...)
		l, entries := open(t, d, 2, 6, 5)
		if !equal(entries, x.want) || l.Room() != x.room || l.Next() != 11 {
			t.Errorf("%d: %v, room %d, next %d", i, entries, l.Room(), l.Next())
		}
	}
}

// The content of a sector fits in it.
func TestOpenLength(t *testing.T) {
	for _, n := range []int{0, 4, api.Sector - 7, api.Sector - 6, api.Sector, 1 << 8, 1<<8 + 4, 1 << 15, 1<<16 - 1} {
		d := newDisk(t, 3)
		head := string([]byte{'c', 1, 0, 0, 0, byte(n), byte(n >> 8)})
		write(t, d, 0, head)
		if n == 4 {
			expectLog(t, d, 0, 3, 1, 2, nil)
		} else {
			expectLog(t, d, 0, 3, 1, 3)
		}
	}
}

// An entry that is on the disk may have more changes than one that is added.
func TestOpenLongEntry(t *testing.T) {
	d := newDisk(t, 60)
	var want []api.Change
	for i := range 50 {
		write(t, d, i, raw('o', i+1, "\x00\x03f/a1"))
		want = append(want, put("f/a", "1"))
	}
	write(t, d, 50, raw('c', 51, "\x32\x00\x00\x00"))
	expectLog(t, d, 0, 60, 1, 9, want)
}

// A log stays within its sectors.
func TestSectorsOfOthers(t *testing.T) {
	d := newDisk(t, 6)
	write(t, d, 0, raw('c', 1, "\x00\x00\x00\x00"), "", "", "", raw('c', 5, "\x00\x00\x00\x00"), "other")
	l, entries := open(t, d, 1, 3, 2)
	if len(entries) != 0 {
		t.Error(entries)
	}
	expectAdd(t, l, list(put("f/a", "1"), put("f/b", "2")), nil)
	expectAdd(t, l, nil, api.ErrFull)
	expectLog(t, d, 1, 3, 2, 0, list(put("f/a", "1"), put("f/b", "2")))
	expectLog(t, d, 0, 1, 1, 0, nil)
	expectLog(t, d, 4, 1, 5, 0, nil)
	if s, _ := d.Read(5); !strings.HasPrefix(s, "other") {
		t.Errorf("%q", s)
	}
}

// L2.

func TestAdd(t *testing.T) {
	d := newDisk(t, 120)
	l, _ := open(t, d, 10, 100, 3)
	var want [][]api.Change
	room := 100
	for _, n := range []int{1, 0, 3, api.MaxChanges, 2} {
		var c []api.Change
		for i := range n {
			c = append(c, put("d/a", strings.Repeat("x", i)))
		}
		expectAdd(t, l, c, nil)
		want = append(want, c)
		room -= n + 1
		if l.Room() != room || l.Next() != 103 {
			t.Errorf("room %d, next %d", l.Room(), l.Next())
		}
		d.Restart(0)
		expectLog(t, d, 10, 100, 3, room, want...)
	}
	l, _ = open(t, d, 10, 100, 3)
	expectAdd(t, l, list(gone("f/a")), nil)
	expectLog(t, d, 10, 100, 3, room-2, append(want, list(gone("f/a")))...)
}

func TestAddErrors(t *testing.T) {
	d := newDisk(t, 120)
	l, _ := open(t, d, 0, 120, 1)
	small, _ := open(t, d, 100, 3, 1)
	many := slices.Repeat(list(put("f/a", "1")), api.MaxChanges+1)
	check := func() {
		expectAdd(t, l, many, api.ErrMany)
		expectAdd(t, small, many, api.ErrMany)
		expectAdd(t, l, make([]api.Change, api.MaxChanges+1), api.ErrMany)
		expectAdd(t, small, many[:3], api.ErrFull)
		expectAdd(t, small, make([]api.Change, 3), api.ErrFull)
		expectAdd(t, l, list(put("f/A", "")), api.ErrShape)
		expectAdd(t, l, list(put("f/a", "1"), put("f/a", strings.Repeat("x", api.MaxText+1)), put("f/A", "")), api.ErrMany)
		expectAdd(t, l, list(put("f/a", "1"), put("f/A", ""), put("f/a", strings.Repeat("x", api.MaxText+1))), api.ErrShape)
		expectAdd(t, small, list(put("d/a", strings.Repeat("x", api.MaxKeep+1))), api.ErrMany)
		expectAdd(t, l, list(api.Change{Key: "f/a", Val: "x", Gone: true}), api.ErrShape)
		if l.Room() != 120 || small.Room() != 3 {
			t.Error("room", l.Room(), small.Room())
		}
	}
	check()
	for at := range 120 {
		if s, _ := d.Read(at); strings.Trim(s, "\x00") != "" {
			t.Errorf("sector %d was written", at)
		}
	}
	d.Arm(0)
	expectAdd(t, l, list(put("f/a", "1")), api.ErrDown)
	check()
	expectAdd(t, l, nil, api.ErrDown)
	d.Restart(0)
	expectLog(t, d, 0, 120, 1, 120)
}

func TestAddFull(t *testing.T) {
	d := newDisk(t, 6)
	l, _ := open(t, d, 0, 6, 1)
	c := list(put("f/a", "1"), put("f/b", "2"))
	expectAdd(t, l, c, nil)
	expectAdd(t, l, append(c, c...), api.ErrFull)
	expectAdd(t, l, append(c, c[0]), api.ErrFull)
	expectAdd(t, l, c, nil)
	expectAdd(t, l, nil, api.ErrFull)
	if l.Room() != 0 {
		t.Error(l.Room())
	}
	expectLog(t, d, 0, 6, 1, 0, c, c)
	l, _ = open(t, d, 0, 6, 1)
	expectAdd(t, l, nil, api.ErrFull)
}

func TestAddLeavesItsArguments(t *testing.T) {
	d := newDisk(t, 10)
	l, _ := open(t, d, 0, 10, 1)
	c := list(put("f/a", "1"), gone("f/b"), put("f/c", "behind"))
	expectAdd(t, l, c[:2], nil)
	if !reflect.DeepEqual(c, list(put("f/a", "1"), gone("f/b"), put("f/c", "behind"))) {
		t.Error(c)
	}
	c[0].Val = "spoilt"
	_, entries := open(t, d, 0, 10, 1)
	entries[0][0].Val = "spoilt"
	expectLog(t, d, 0, 10, 1, 7, list(put("f/a", "1"), gone("f/b")))
}

// leftovers are sectors that earlier logs can have left, for each place and number.
func leftovers(number int) []string {
	return []string{
		"",
		raw('o', number, "\x00\x03f/z9"),
		raw('c', number, "\x00\x00\x00\x00"),
		raw('c', number, "\x01\x00\x00\x00"),
		raw('c', number, "\x02\x00\x00\x00"),
	}
}

const (
	from  = 1
	many  = 5
	first = 7
)

// litter writes the sectors of the log with leftovers, chosen by the digits of code.
func litter(t *testing.T, d *disk.Disk, code int) {
	t.Helper()
	var sectors []string
	for i := range many {
		l := leftovers(first + i)
		sectors = append(sectors, l[code%len(l)])
		code /= len(l)
	}
	write(t, d, from, sectors...)
}

// codes is the number of ways to litter the log.
const codes = 5 * 5 * 5 * 5 * 5

// Whatever was there before, the entry is the last one.
func TestAddOverLeftovers(t *testing.T) {
	d := newDisk(t, 7)
	for code := range codes {
		for n := range many {
			litter(t, d, code)
			l, before := open(t, d, from, many, first)
			c := list(put("f/a", "1"), put("f/b", "2"), gone("f/c"), gone("f/d"))[:n]
			room := l.Room()
			if n+1 > room {
				expectAdd(t, l, c, api.ErrFull)
				continue
			}
			expectAdd(t, l, c, nil)
			d.Restart(0)
			expectLog(t, d, from, many, first, room-n-1, append(before, c)...)
		}
	}
}

// fail adds an entry to a littered log on a disk that fails after some steps, and
// checks what is in the log then. It reports whether the disk failed.
func fail(t *testing.T, d *disk.Disk, code, steps int, keep uint64, c []api.Change) bool {
	t.Helper()
	litter(t, d, code)
	l, before := open(t, d, from, many, first)
	d.Arm(steps)
	err := l.Add(c)
	if err == api.ErrFull {
		d.Restart(0)
		return false
	}
	down := d.Down()
	if down != (err == api.ErrDown) {
		t.Errorf("down: %v, error %v", down, err)
	}
	d.Restart(keep)
	_, after := open(t, d, from, many, first)
	with := append(slices.Clip(before), c)
	if !equal(after, with) && (!down || !equal(after, before)) {
		t.Errorf("litter %d, %d steps, keep %b: %v became %v", code, steps, keep, before, after)
	}
	return down
}

func TestAddOnFailingDisk(t *testing.T) {
	d := newDisk(t, 7)
	c := list(put("f/a", "1"), put("f/b", "2"))
	for code := range codes {
		for steps, failed := 0, true; failed; steps++ {
			for keep := range uint64(8) {
				failed = fail(t, d, code, steps, keep, c)
			}
		}
	}
}

// All that can be kept of a longer entry.
func TestAddOfManyOnFailingDisk(t *testing.T) {
	d := newDisk(t, 7)
	c := list(put("f/a", "1"), put("f/b", "2"), gone("f/c"), gone("f/d"))
	for code := 0; code < codes; code += 31 {
		for _, n := range []int{0, 1, 3, 4} {
			for steps, failed := 0, true; failed; steps++ {
				for keep := range uint64(32) {
					failed = fail(t, d, code, steps, keep, c[:n])
				}
			}
		}
	}
}

// What was added stays, however often the disk fails later.
func TestEntriesSurviveFailures(t *testing.T) {
	seed := uint64(1)
	next := func(n int) int {
		seed = seed*6364136223846793005 + 1442695040888963407
		return int(seed>>33) % n
	}
	for range 200 {
		d := newDisk(t, 40)
		l, want := open(t, d, 0, 40, 1)
		for l.Room() > 0 {
			var c []api.Change
			for range min(next(4), l.Room()-1) {
				c = append(c, put("f/"+string(rune('a'+next(26))), string(rune('0'+next(10)))))
			}
			if next(2) == 0 {
				d.Arm(next(8))
			}
			err := l.Add(c)
			d.Restart(seed)
			var got [][]api.Change
			l, got = open(t, d, 0, 40, 1)
			if len(got) == len(want)+1 || err == nil {
				want = append(want, c)
			}
			if !equal(got, want) {
				t.Fatalf("%v, %v, wanted %v", err, got, want)
			}
		}
	}
}

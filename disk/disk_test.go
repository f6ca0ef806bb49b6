package disk_test

import (
	"math"
	"slices"
	"strings"
	"testing"

	"hammerpond/api"
	"hammerpond/disk"
)

func blank() string { return strings.Repeat("\x00", api.Sector) }

// full returns the bytes of a sector to which data was written.
func full(data string) string { return data + blank()[len(data):] }

func newDisk(t *testing.T, n int) *disk.Disk {
	t.Helper()
	d, err := disk.New(n)
	if err != nil || d == nil {
		t.Fatalf("New(%d): %v", n, err)
	}
	return d
}

func expectRead(t *testing.T, d *disk.Disk, at int, want string) {
	t.Helper()
	if got, err := d.Read(at); got != full(want) || err != nil {
		t.Errorf("sector %d: %q, %v, wanted %q", at, strings.TrimRight(got, "\x00"), err, want)
	}
}

func expectReadError(t *testing.T, d *disk.Disk, at int, want error) {
	t.Helper()
	if got, err := d.Read(at); got != "" || err != want {
		t.Errorf("sector %d: %q, %v, wanted %v", at, got, err, want)
	}
}

func expectWrite(t *testing.T, d *disk.Disk, at int, data string, want error) {
	t.Helper()
	if err := d.Write(at, data); err != want {
		t.Errorf("Write(%d, %q): %v, wanted %v", at, data, err, want)
	}
}

func expectFlush(t *testing.T, d *disk.Disk, want error) {
	t.Helper()
	if err := d.Flush(); err != want {
		t.Errorf("Flush: %v, wanted %v", err, want)
	}
}

func expectDown(t *testing.T, d *disk.Disk, want bool) {
	t.Helper()
	if d.Down() != want {
		t.Errorf("Down: %v", d.Down())
	}
}

// J1.

func TestNew(t *testing.T) {
	for _, n := range []int{1, 2, 50, api.Sectors - 1, api.Sectors} {
		d := newDisk(t, n)
		if d.Sectors() != n {
			t.Errorf("%d sectors, wanted %d", d.Sectors(), n)
		}
		expectDown(t, d, false)
		for at := range n {
			expectRead(t, d, at, "")
		}
		expectReadError(t, d, n, api.ErrBound)
	}
	for _, n := range []int{0, -1, api.Sectors + 1, math.MinInt, math.MaxInt} {
		if d, err := disk.New(n); d != nil || err != api.ErrBound {
			t.Errorf("New(%d): %v, %v", n, d, err)
		}
	}
}

func TestReadAndWrite(t *testing.T) {
	d := newDisk(t, 3)
	most := strings.Repeat("x", api.Sector)
	expectWrite(t, d, 1, most, nil)
	expectRead(t, d, 0, "")
	expectRead(t, d, 1, most)
	expectRead(t, d, 2, "")
	expectWrite(t, d, 1, "a\x00\xffé", nil)
	expectRead(t, d, 1, "a\x00\xffé")
	expectWrite(t, d, 2, "last", nil)
	expectWrite(t, d, 0, "first", nil)
	expectWrite(t, d, 1, "", nil)
	expectRead(t, d, 0, "first")
	expectRead(t, d, 1, "")
	expectRead(t, d, 2, "last")
	expectFlush(t, d, nil)
	expectRead(t, d, 0, "first")
	expectRead(t, d, 1, "")
	expectRead(t, d, 2, "last")
}

func TestBounds(t *testing.T) {
	d := newDisk(t, 3)
	long := strings.Repeat("x", api.Sector+1)
	for _, at := range []int{-1, 3, 4, api.Sectors, math.MinInt, math.MaxInt} {
		expectReadError(t, d, at, api.ErrBound)
		expectWrite(t, d, at, "x", api.ErrBound)
		expectWrite(t, d, at, long, api.ErrBound)
	}
	expectWrite(t, d, 0, long, api.ErrBound)
	for at := range 3 {
		expectRead(t, d, at, "")
	}
}

func TestOrderOfErrors(t *testing.T) {
	d := newDisk(t, 3)
	d.Arm(0)
	expectFlush(t, d, api.ErrDown)
	expectReadError(t, d, 0, api.ErrDown)
	expectReadError(t, d, 3, api.ErrDown)
	expectReadError(t, d, -1, api.ErrDown)
	expectWrite(t, d, 3, "x", api.ErrBound)
	expectWrite(t, d, -1, "x", api.ErrBound)
	expectWrite(t, d, 0, strings.Repeat("x", api.Sector+1), api.ErrBound)
	expectWrite(t, d, 0, "x", api.ErrDown)
}

func TestDisksShareNothing(t *testing.T) {
	a, b := newDisk(t, 2), newDisk(t, 2)
	expectWrite(t, a, 0, "a", nil)
	a.Arm(0)
	expectFlush(t, a, api.ErrDown)
	expectDown(t, b, false)
	expectRead(t, b, 0, "")
	expectFlush(t, b, nil)
}

// J2.

func TestSteps(t *testing.T) {
	d := newDisk(t, 3)
	d.Arm(3)
	expectWrite(t, d, 0, "a", nil)
	// None of these is a step.
	expectRead(t, d, 0, "a")
	expectReadError(t, d, 3, api.ErrBound)
	expectWrite(t, d, 3, "x", api.ErrBound)
	expectFlush(t, d, nil)
	expectWrite(t, d, 1, "b", nil)
	expectDown(t, d, false)
	expectRead(t, d, 1, "b")
	expectWrite(t, d, 1, "c", api.ErrDown)
	expectDown(t, d, true)
	expectFlush(t, d, api.ErrDown)
	expectWrite(t, d, 1, "c", api.ErrDown)
	d.Restart(^uint64(0))
	expectDown(t, d, false)
	expectRead(t, d, 0, "a")
	expectRead(t, d, 1, "b")
}

func TestArm(t *testing.T) {
	d := newDisk(t, 1)
	for _, n := range []int{-1, -2, math.MinInt} {
		d.Arm(1)
		d.Arm(n)
		for range 200 {
			expectFlush(t, d, nil)
		}
		expectDown(t, d, false)
	}
	d.Arm(math.MaxInt)
	expectFlush(t, d, nil)
	// What counts is the last call.
	d.Arm(0)
	d.Arm(1)
	expectDown(t, d, false)
	expectWrite(t, d, 0, "a", nil)
	expectDown(t, d, false)
	expectFlush(t, d, api.ErrDown)
	// Only Restart ends it.
	for _, n := range []int{5, -1} {
		d.Arm(n)
		expectDown(t, d, true)
		expectFlush(t, d, api.ErrDown)
		expectWrite(t, d, 0, "b", api.ErrDown)
		expectReadError(t, d, 0, api.ErrDown)
	}
}

func TestArmWithoutSteps(t *testing.T) {
	d := newDisk(t, 1)
	d.Arm(0)
	expectDown(t, d, false)
	expectRead(t, d, 0, "")
	expectWrite(t, d, 0, "a", api.ErrDown)
	expectDown(t, d, true)
	d.Restart(^uint64(0))
	expectRead(t, d, 0, "")
}

func TestFlush(t *testing.T) {
	d := newDisk(t, 2)
	expectWrite(t, d, 0, "a", nil)
	expectWrite(t, d, 1, "b", nil)
	expectWrite(t, d, 0, "c", nil)
	expectFlush(t, d, nil)
	expectWrite(t, d, 1, "d", nil)
	d.Restart(0)
	expectRead(t, d, 0, "c")
	expectRead(t, d, 1, "b")
	// A flush that fails makes nothing durable.
	expectWrite(t, d, 0, "e", nil)
	d.Arm(0)
	expectFlush(t, d, api.ErrDown)
	d.Restart(0)
	expectRead(t, d, 0, "c")
}

// J3.

func TestRestartKeeps(t *testing.T) {
	for keep := range uint64(32) {
		d := newDisk(t, 3)
		expectWrite(t, d, 0, "old", nil)
		expectWrite(t, d, 1, "old", nil)
		expectFlush(t, d, nil)
		want := []string{"old", "old", ""}
		for i, w := range []struct {
			at   int
			data string
		}{{1, "a"}, {0, "b"}, {1, "c"}, {2, "d"}, {1, "e"}} {
			expectWrite(t, d, w.at, w.data, nil)
			if keep>>i&1 == 1 {
				want[w.at] = w.data
			}
		}
		d.Restart(keep | 1<<60)
		for at := range want {
			expectRead(t, d, at, want[at])
		}
		d.Restart(0)
		for at := range want {
			expectRead(t, d, at, want[at])
		}
	}
}

// The number of a write counts modulo 64.
func TestRestartModulo(t *testing.T) {
	for _, x := range []struct {
		keep uint64
		want []string
	}{
		{0, []string{"", ""}},
		{1, []string{"128", ""}},
		{2, []string{"", "129"}},
		{4, []string{"66", ""}},
		{1 << 63, []string{"", "127"}},
		{1<<63 | 1<<4, []string{"68", "127"}},
		{^uint64(0), []string{"128", "129"}},
	} {
		d := newDisk(t, 2)
		for i := range 130 {
			expectWrite(t, d, i%2, itoa(i), nil)
		}
		d.Restart(x.keep)
		for at := range x.want {
			expectRead(t, d, at, x.want[at])
		}
	}
}

func itoa(n int) string {
	if n < 10 {
		return string(rune('0' + n))
	}
	return itoa(n/10) + itoa(n%10)
}

// The numbers begin again after Flush and after Restart; a write that fails has none.
func TestRestartNumbers(t *testing.T) {
	d := newDisk(t, 2)
	expectWrite(t, d, 0, "a", nil)
	expectFlush(t, d, nil)
	expectWrite(t, d, 5, "x", api.ErrBound)
	expectWrite(t, d, 0, "b", nil)
	expectWrite(t, d, 1, "c", nil)
	d.Restart(1)
	expectRead(t, d, 0, "b")
	expectRead(t, d, 1, "")
	expectWrite(t, d, 1, "d", nil)
	d.Arm(0)
	expectWrite(t, d, 0, "e", api.ErrDown)
	d.Restart(1)
	expectRead(t, d, 0, "b")
	expectRead(t, d, 1, "d")
}

func TestRestartDisarms(t *testing.T) {
	d := newDisk(t, 1)
	d.Arm(2)
	d.Restart(0)
	for range 10 {
		expectWrite(t, d, 0, "a", nil)
	}
	d.Arm(0)
	expectFlush(t, d, api.ErrDown)
	d.Restart(0)
	for range 10 {
		expectWrite(t, d, 0, "a", nil)
	}
	expectDown(t, d, false)
}

// model is a disk that remembers every write.
type model struct {
	durable []string
	writes  []struct {
		at   int
		data string
	}
}

func (m *model) read(at int) string {
	for _, w := range slices.Backward(m.writes) {
		if w.at == at {
			return w.data
		}
	}
	return m.durable[at]
}

func (m *model) restart(keep uint64) {
	for i, w := range m.writes {
		if keep>>(i%64)&1 == 1 {
			m.durable[w.at] = w.data
		}
	}
	m.writes = nil
}

func TestLikeModel(t *testing.T) {
	const sectors = 5
	d, m := newDisk(t, sectors), model{durable: make([]string, sectors)}
	seed := uint64(1)
	next := func(n int) int {
		seed = seed*6364136223846793005 + 1442695040888963407
		return int(seed>>33) % n
	}
	for i := range 20000 {
		switch next(150) {
		case 0:
			expectFlush(t, d, nil)
			m.restart(^uint64(0))
		case 1:
			keep := seed ^ seed<<31
			d.Restart(keep)
			m.restart(keep)
		default:
			at, data := next(sectors), itoa(i)
			expectWrite(t, d, at, data, nil)
			m.writes = append(m.writes, struct {
				at   int
				data string
			}{at, data})
		}
		at := next(sectors)
		expectRead(t, d, at, m.read(at))
	}
}

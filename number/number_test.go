package number_test

import (
	"math"
	"testing"

	"hammerpond/number"
)

func TestBytes(t *testing.T) {
	for _, x := range []struct {
		n    uint64
		size int
		want string
	}{
		{0, 1, "\x00"},
		{5, 1, "\x05"},
		{255, 1, "\xff"},
		{256, 1, "\x00"},
		{0x1234, 2, "\x34\x12"},
		{0x12345678, 4, "\x78\x56\x34\x12"},
		{0x9912345678, 4, "\x78\x56\x34\x12"},
		{1, 8, "\x01\x00\x00\x00\x00\x00\x00\x00"},
		{math.MaxUint64, 8, "\xff\xff\xff\xff\xff\xff\xff\xff"},
		{7, 0, ""},
		{7, -1, ""},
	} {
		if got := number.Bytes(x.n, x.size); got != x.want {
			t.Errorf("%d in %d bytes: %q, wanted %q", x.n, x.size, got, x.want)
		}
	}
}

func TestOf(t *testing.T) {
	for _, x := range []struct {
		s    string
		want uint64
	}{
		{"", 0},
		{"\x05", 5},
		{"\x34\x12", 0x1234},
		{"\xff\x00\x00\x80", 0x800000ff},
		{"\x00\x00\x00\x00\x00\x00\x00\x80", 1 << 63},
	} {
		if got := number.Of(x.s); got != x.want {
			t.Errorf("%q: %d, wanted %d", x.s, got, x.want)
		}
	}
	for _, n := range []uint64{0, 1, 255, 256, 65535, 1 << 32, 1<<40 + 3, math.MaxUint64} {
		if got := number.Of(number.Bytes(n, 8)); got != n {
			t.Errorf("%d is read as %d", n, got)
		}
	}
}

package row_test

import (
	"slices"
	"strings"
	"testing"

	"hammerpond/api"
	"hammerpond/row"
)

func put(key, val string) api.Change { return api.Change{Key: key, Val: val} }

func gone(key string) api.Change { return api.Change{Key: key, Gone: true} }

func list(l ...api.Change) []api.Change { return l }

func long(n int) string { return strings.Repeat("z", n) }

// K1.

func TestKeys(t *testing.T) {
	for _, x := range []struct{ name, file, made string }{
		{"a", "f/a", "d/a"},
		{"abcdefgh", "f/abcdefgh", "d/abcdefgh"},
		{"", "f/", "d/"},
		{"No name", "f/No name", "d/No name"},
	} {
		if row.File(x.name) != x.file || row.Made(x.name) != x.made {
			t.Errorf("%q: %q, %q", x.name, row.File(x.name), row.Made(x.name))
		}
	}
}

func TestKinds(t *testing.T) {
	for _, x := range []struct {
		key        string
		file, made bool
	}{
		{"f/a", true, false}, {"d/a", false, true}, {"f/d", true, false}, {"d/f", false, true},
		{"f/", false, false}, {"d/", false, false}, {"", false, false}, {"a", false, false}, {"f/A", false, false}, {"d/0", false, false},
	} {
		if row.IsFile(x.key) != x.file || row.IsMade(x.key) != x.made {
			t.Errorf("%q: %v, %v", x.key, row.IsFile(x.key), row.IsMade(x.key))
		}
	}
}

var badKeys = []string{
	"", "f", "d", "/", "f/", "d/", "a", "fa", "/a", "e/a", "F/a", "D/a", "fd/a", "f//a", "f/d/a", " f/a", "f/a ", "f/A", "d/A",
	"f/0a", "d/.a", "f/a-b", "f/ninebytes", "d/ninebytes", "f/a\x00", "d/é", "f\\a", "f/a%",
}

func TestCheck(t *testing.T) {
	for _, x := range []struct {
		change api.Change
		want   error
	}{
		{put("f/a", ""), nil},
		{put("f/a", long(api.MaxText)), nil},
		{put("f/a", long(api.MaxText+1)), api.ErrMany},
		{put("f/a", long(api.MaxKeep)), api.ErrMany},
		{put("f/a", long(api.MaxKeep+1)), api.ErrMany},
		{put("f/abcdefgh", "\x00\xff"), nil},
		{put("d/a", ""), nil},
		{put("d/a0.b", long(api.MaxText+1)), nil},
		{put("d/a", long(api.MaxKeep)), nil},
		{put("d/a", long(api.MaxKeep+1)), api.ErrMany},
		{gone("f/a"), nil},
		{gone("d/abcdefgh"), nil},
		{api.Change{Key: "f/a", Val: "x", Gone: true}, api.ErrShape},
		{api.Change{Key: "d/a", Val: "x", Gone: true}, api.ErrShape},
		{api.Change{Key: "f/a", Val: long(api.MaxText + 1), Gone: true}, api.ErrShape},
		{api.Change{Key: "d/a", Val: long(api.MaxKeep + 1), Gone: true}, api.ErrShape},
		{api.Change{}, api.ErrShape},
	} {
		if err := row.Check(x.change); err != x.want {
			t.Errorf("%v: %v, wanted %v", x.change, err, x.want)
		}
	}
	for _, key := range badKeys {
		for _, c := range list(put(key, ""), put(key, "x"), put(key, long(api.MaxKeep+1)), gone(key)) {
			if err := row.Check(c); err != api.ErrShape {
				t.Errorf("%v: %v", c, err)
			}
		}
	}
}

// K2.

var encodings = []struct {
	change api.Change
	bytes  string
}{
	{gone("f/a"), "\x01\x03\x66\x2f\x61"},
	{gone("d/abcdefgh"), "\x01\x0ad/abcdefgh"},
	{put("f/a", ""), "\x00\x03f/a"},
	{put("f/a", "xy"), "\x00\x03f/axy"},
	{put("f/ax", "y"), "\x00\x04f/axy"},
	{put("d/a", "0 0 0"), "\x00\x03d/a0 0 0"},
	{put("f/a", "\x00\x01\xff"), "\x00\x03f/a\x00\x01\xff"},
	{put("f/abcdefgh", long(api.MaxText)), "\x00\x0af/abcdefgh" + long(api.MaxText)},
	{put("d/abcdefgh", long(api.MaxKeep)), "\x00\x0ad/abcdefgh" + long(api.MaxKeep)},
}

func TestBytes(t *testing.T) {
	for _, x := range encodings {
		if got, err := row.Bytes(x.change); got != x.bytes || err != nil {
			t.Errorf("%v: %q, %v, wanted %q", x.change, got, err, x.bytes)
		}
		if got, err := row.Parse(x.bytes); got != x.change || err != nil {
			t.Errorf("%q: %v, %v, wanted %v", x.bytes, got, err, x.change)
		}
	}
}

func TestBytesErrors(t *testing.T) {
	for _, x := range []struct {
		change api.Change
		want   error
	}{
		{api.Change{}, api.ErrShape},
		{put("f/A", ""), api.ErrShape},
		{put(long(300), ""), api.ErrShape},
		{put("f/"+long(256), ""), api.ErrShape},
		{api.Change{Key: "f/a", Val: "x", Gone: true}, api.ErrShape},
		{put("f/a", long(api.MaxText+1)), api.ErrMany},
		{put("d/a", long(api.MaxKeep+1)), api.ErrMany},
	} {
		if got, err := row.Bytes(x.change); got != "" || err != x.want {
			t.Errorf("%v: %q, %v, wanted %v", x.change, got, err, x.want)
		}
	}
}

func expectBad(t *testing.T, s string) {
	t.Helper()
	if c, err := row.Parse(s); c != (api.Change{}) || err != api.ErrText {
		t.Errorf("%q: %v, %v", s, c, err)
	}
}

func TestParseErrors(t *testing.T) {
	for _, s := range []string{
		"", "\x00", "\x01", "\x00\x00", "\x00\x03", "\x00\x03f", "\x00\x03f/", "\x00\x04f/a", "\x00\xfff/a", "\x01\x04f/a",
		"\x02\x03f/a", "\xff\x03f/a", "0\x03f/a", "\x01\x03f/ax", "\x01\x02f/a", "\x00\x02f/a", "\x00\x00f/a", "\x00\x01f/a",
		"\x00\x03" + "f/a" + long(api.MaxText+1), "\x00\x03" + "d/a" + long(api.MaxKeep+1), "\x01\x03d/a\x00",
		"\x00\x0bf/ninebytes", "\x00\xff" + "f/" + long(253), "f/a",
	} {
		expectBad(t, s)
	}
	for _, key := range badKeys {
		expectBad(t, "\x00"+string(rune(len(key)))+key)
		expectBad(t, "\x01"+string(rune(len(key)))+key)
	}
}

// Whatever Parse reads, Bytes writes.
func TestBytesOfParse(t *testing.T) {
	const bytes = "\x00\x01\x03\x04fd/a"
	read := 0
	for code := range 8 * 8 * 8 * 8 * 8 * 8 {
		s := ""
		for ; code > 0; code /= 8 {
			s += bytes[code%8 : code%8+1]
		}
		for _, s := range []string{s, "\x00" + s, "\x01\x03" + s} {
			c, err := row.Parse(s)
			if err != nil {
				continue
			}
			read++
			if back, err := row.Bytes(c); back != s || err != nil {
				t.Errorf("%q: %v, which is %q, %v", s, c, back, err)
			}
		}
	}
	if read == 0 {
		t.Error("nothing was read")
	}
}

// K3.

func TestApply(t *testing.T) {
	rows := list(put("d/b", "1"), put("f/a", "2"), put("f/c", "3"))
	for _, x := range []struct{ rows, changes, want []api.Change }{
		{nil, nil, nil},
		{rows, nil, rows},
		{nil, rows, rows},
		{nil, list(put("f/c", "3"), put("d/b", "1"), put("f/a", "2")), rows},
		{rows, list(put("f/b", "x")), list(put("d/b", "1"), put("f/a", "2"), put("f/b", "x"), put("f/c", "3"))},
		{rows, list(put("d/a", "")), list(put("d/a", ""), put("d/b", "1"), put("f/a", "2"), put("f/c", "3"))},
		{rows, list(put("f/ca", "x")), list(put("d/b", "1"), put("f/a", "2"), put("f/c", "3"), put("f/ca", "x"))},
		{rows, list(put("f/a", "")), list(put("d/b", "1"), put("f/a", ""), put("f/c", "3"))},
		{rows, list(gone("f/a")), list(put("d/b", "1"), put("f/c", "3"))},
		{rows, list(gone("f/b"), gone("d/a"), gone("f/d")), rows},
		{rows, list(gone("f/c"), gone("d/b"), gone("f/a")), nil},
		{rows, list(gone("f/a"), put("f/a", "new")), list(put("d/b", "1"), put("f/a", "new"), put("f/c", "3"))},
		{rows, list(put("f/a", "new"), gone("f/a")), list(put("d/b", "1"), put("f/c", "3"))},
		{rows, list(put("f/b", "1"), gone("f/b")), rows},
		{rows, list(put("f/b", "1"), put("f/b", "2"), gone("f/b"), put("f/b", "3"), put("f/b", "4")), list(put("d/b", "1"), put("f/a", "2"), put("f/b", "4"), put("f/c", "3"))},
		{nil, list(gone("f/a")), nil},
	} {
		if got := row.Apply(x.rows, x.changes); !slices.Equal(got, x.want) {
			t.Errorf("%v to %v: %v, wanted %v", x.changes, x.rows, got, x.want)
		}
	}
}

func TestApplyLeavesItsArguments(t *testing.T) {
	first := func() []api.Change { return list(put("f/a", "2"), put("f/c", "3"), put("f/z", "behind")) }
	second := func() []api.Change { return list(put("f/d", "x"), gone("f/a"), put("f/y", "behind")) }
	rows, changes := first(), second()
	for range 2 {
		got := row.Apply(rows[:2], changes[:2])
		if !slices.Equal(got, list(put("f/c", "3"), put("f/d", "x"))) {
			t.Error(got)
		}
		clear(got)
		clear(row.Apply(rows[:2], nil))
		clear(row.Apply(nil, changes[:1]))
	}
	if !slices.Equal(rows, first()) || !slices.Equal(changes, second()) {
		t.Error(rows, changes)
	}
}

// Many changes are the same as one after the other, to a map.
func TestApplyLikeModel(t *testing.T) {
	seed := uint32(1)
	next := func(n int) int {
		seed = seed*1664525 + 1013904223
		return int(seed>>16) % n
	}
	model := map[string]string{}
	var rows []api.Change
	for range 2000 {
		var changes []api.Change
		for range next(30) {
			c := put(row.File(string(rune('a'+next(20)))), string(rune('0'+next(10))))
			if next(2) == 0 {
				c.Key = row.Made(c.Key[2:])
			}
			if next(3) == 0 {
				c = gone(c.Key)
			}
			changes = append(changes, c)
			model[c.Key] = c.Val
			if c.Gone {
				delete(model, c.Key)
			}
		}
		rows = row.Apply(rows, changes)
		if len(rows) != len(model) {
			t.Fatalf("%d rows, wanted %d", len(rows), len(model))
		}
		for i, c := range rows {
			val, found := model[c.Key]
			if !found || c != put(c.Key, val) || i > 0 && rows[i-1].Key >= c.Key {
				t.Fatalf("%v in %v", c, rows)
			}
		}
	}
}

// Many rows take little time.
func TestApplyManyChanges(t *testing.T) {
	const n = 200000
	var changes []api.Change
	for i := range n {
		name := []byte("aaaaaaaa")
		for at, code := 0, i*7919%n; code > 0; at, code = at+1, code/26 {
			name[at] += byte(code % 26)
		}
		changes = append(changes, put(row.File(string(name)), "x"))
	}
	rows := row.Apply(nil, changes)
	if len(rows) != n || len(row.Apply(rows, changes)) != n {
		t.Error(len(rows))
	}
}

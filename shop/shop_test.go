package shop_test

import (
	"reflect"
	"slices"
	"strconv"
	"strings"
	"testing"

	"hammerpond/api"
	"hammerpond/build"
	"hammerpond/disk"
	"hammerpond/graph"
	"hammerpond/log"
	"hammerpond/makefile"
	"hammerpond/record"
	"hammerpond/row"
	"hammerpond/shop"
	"hammerpond/store"
)

const (
	least    = 50 // sectors of a disk with a store
	logStart = 44
)

// source has patterns, a rule with two targets, commands that can fail and a phony name.
const source = "%.o : %.c\n\tturn $< $@\nb : x.o y.o\n\tjoin $@ $^\nc d : a b\n\tswap a c x z\n\tcopy b d\nphony all\nall : b c w\nv : u\n\tneed u\n\tcopy u v\nw : v\n\tjoin w v v"

// given has what source is about, sorted.
const given = "a=xy u=1 x.c=ab y.c=cd"

// built has what is made of given for the goal all, sorted.
const built = "a=xy b=badc c=zy d=badc u=1 v=1 w=11 x.c=ab x.o=ba y.c=cd y.o=dc"

func newDisk(t *testing.T, n int) *disk.Disk {
	t.Helper()
	d, err := disk.New(n)
	if err != nil {
		t.Fatal(err)
	}
	return d
}

func formatted(t *testing.T, n int) *disk.Disk {
	t.Helper()
	d := newDisk(t, n)
	if err := store.Format(d); err != nil {
		t.Fatal(err)
	}
	return d
}

func open(t *testing.T, d *disk.Disk) *shop.Shop {
	t.Helper()
	x, err := shop.Open(d)
	if err != nil || x == nil {
		t.Fatalf("Open: %v", err)
	}
	return x
}

// fresh returns a disk of n sectors, and a shop on it with files.
func fresh(t *testing.T, n int, words string) (*disk.Disk, *shop.Shop) {
	t.Helper()
	d := formatted(t, n)
	x := open(t, d)
	put(t, x, words)
	return d, x
}

// have returns the files that words like a=xy describe.
func have(words string) []api.File {
	var l []api.File
	for _, word := range strings.Fields(words) {
		name, text, _ := strings.Cut(word, "=")
		l = append(l, api.File{Name: name, Text: text})
	}
	return l
}

func put(t *testing.T, x *shop.Shop, words string) {
	t.Helper()
	for _, f := range have(words) {
		if err := x.Put(f); err != nil {
			t.Fatalf("Put(%v): %v", f, err)
		}
	}
}

func drop(t *testing.T, x *shop.Shop, names string) {
	t.Helper()
	for _, name := range strings.Fields(names) {
		if err := x.Drop(name); err != nil {
			t.Fatalf("Drop(%q): %v", name, err)
		}
	}
}

// shown returns the files and the names of the records of a shop.
func shown(x *shop.Shop) string {
	var l []string
	for _, f := range x.Files() {
		l = append(l, f.Name+"="+f.Text)
	}
	return strings.Join(l, " ") + "; " + strings.Join(x.Kept(), " ")
}

func expectShop(t *testing.T, x *shop.Shop, files, kept string) {
	t.Helper()
	if got := shown(x); got != files+"; "+kept {
		t.Errorf("%s, wanted %s; %s", got, files, kept)
	}
}

// expectBoth expects the same of a shop, and of the one on its disk.
func expectBoth(t *testing.T, d *disk.Disk, x *shop.Shop, files, kept string) {
	t.Helper()
	expectShop(t, x, files, kept)
	expectShop(t, open(t, d), files, kept)
}

func expectNoShop(t *testing.T, d *disk.Disk, want error) {
	t.Helper()
	if x, err := shop.Open(d); x != nil || err != want {
		t.Errorf("Open: %v, %v, wanted %v", x, err, want)
	}
}

// room returns the number of free sectors of the log of the store on a disk.
func room(t *testing.T, d *disk.Disk) int {
	t.Helper()
	s, err := store.Open(d)
	if err != nil {
		t.Fatal(err)
	}
	return s.Room()
}

// expectPlan expects one unit with these names, or none.
func expectPlan(t *testing.T, x *shop.Shop, source, goal, want string) {
	t.Helper()
	groups, units, err := x.Plan(source, goal)
	if err != nil {
		t.Fatalf("Plan of %s: %v", goal, err)
	}
	var l []string
	for _, unit := range units {
		l = append(l, strings.Join(build.Names(groups, unit), " "))
	}
	if got := strings.Join(l, "; "); got != want {
		t.Errorf("Plan of %s: %q, wanted %q", goal, got, want)
	}
}

// outcomesShown returns for each outcome its names and its number.
func outcomesShown(outcomes []api.Outcome) string {
	var l []string
	for _, o := range outcomes {
		l = append(l, strings.Join(append(slices.Clone(o.Names), strconv.Itoa(int(o.Err))), " "))
	}
	return strings.Join(l, "; ")
}

func expectBuild(t *testing.T, x *shop.Shop, source, goal, want string) {
	t.Helper()
	outcomes, err := x.Build(source, goal, false)
	if got := outcomesShown(outcomes); err != nil || got != want {
		t.Errorf("Build of %s: %q, %v, wanted %q", goal, got, err, want)
	}
}

// N1.

func TestOpenOfEmptyStore(t *testing.T) {
	for _, n := range []int{least, 77, api.Sectors} {
		d, x := fresh(t, n, "")
		expectBoth(t, d, x, "", "")
	}
}

func TestOpen(t *testing.T) {
	d := formatted(t, 80)
	s, err := store.Open(d)
	if err != nil {
		t.Fatal(err)
	}
	err = s.Commit([]api.Change{
		{Key: row.File("b"), Val: "yx"},
		{Key: row.Made("z"), Val: "0 0 0"},
		{Key: row.File("a"), Val: "xy"},
		{Key: row.Made("b"), Val: "1 1 1 8:turn a b a 2:xy b 2:yx"},
		{Key: row.File("c"), Val: "0 0 0"},
	})
	if err != nil {
		t.Fatal(err)
	}
	for range 2 {
		x := open(t, d)
		expectShop(t, x, "a=xy b=yx c=0 0 0", "b z")
		expectPlan(t, x, "b : a\n\tturn a b", "b", "")
		expectPlan(t, x, "b : a\n\tturn $< $@", "b", "")
		expectPlan(t, x, "b : a\n\tcopy a b", "b", "b")
		expectPlan(t, x, "z : a\n\tcopy a z", "z", "z")
		if err := s.Checkpoint(); err != nil {
			t.Fatal(err)
		}
	}
}

func TestOpenErrors(t *testing.T) {
	for _, n := range []int{1, least, api.Sectors} {
		d := newDisk(t, n)
		expectNoShop(t, d, api.ErrText)
		d.Arm(0)
		d.Flush()
		expectNoShop(t, d, api.ErrDown)
	}
	d, _ := fresh(t, 60, given)
	d.Arm(0)
	d.Flush()
	expectNoShop(t, d, api.ErrDown)
	d.Restart(0)
	expectShop(t, open(t, d), given, "")
}

func TestOpenOfRecordsThatCannotBeRead(t *testing.T) {
	for _, text := range []string{"", "0 0", "0 0 0 ", "junk", "00 0 0", "1 0 0 4:fai", "4 0 0 1:a 1:b 1:c 1:d", "0 1 0 A 0:", "0 0 1 b 21:" + strings.Repeat("z", 21)} {
		for _, name := range []string{"a", "m", "z"} {
			d := formatted(t, 80)
			s, err := store.Open(d)
			if err != nil {
				t.Fatal(err)
			}
			good := []api.Change{{Key: row.Made("b"), Val: "0 0 0"}, {Key: row.Made("n"), Val: "0 0 0"}, {Key: row.File("a"), Val: text[:min(len(text), 20)]}}
			if err := s.Commit(good); err != nil {
				t.Fatal(err)
			}
			open(t, d)
			if err := s.Commit([]api.Change{{Key: row.Made(name), Val: text}}); err != nil {
				t.Fatal(err)
			}
			expectNoShop(t, d, api.ErrText)
			d.Arm(0)
			d.Flush()
			expectNoShop(t, d, api.ErrDown)
		}
	}
}

func TestPut(t *testing.T) {
	d, x := fresh(t, 80, "y.c=cd a=xy x.c=ab")
	expectBoth(t, d, x, "a=xy x.c=ab y.c=cd", "")
	put(t, x, "a=q b= x.c=ab")
	expectBoth(t, d, x, "a=q b= x.c=ab y.c=cd", "")
	longest := api.File{Name: "zzzzzzzz", Text: strings.Repeat("\x00", api.MaxText)}
	if err := x.Put(longest); err != nil {
		t.Error(err)
	}
	d.Restart(0)
	if l := open(t, d).Files(); len(l) != 5 || l[4] != longest {
		t.Error(l)
	}
}

func TestPutErrors(t *testing.T) {
	d, x := fresh(t, 60, "a=xy")
	before := room(t, d)
	long := strings.Repeat("z", api.MaxText+1)
	tests := []struct {
		file api.File
		want error
	}{
		{api.File{}, api.ErrShape},
		{api.File{Name: "A"}, api.ErrShape},
		{api.File{Name: "f/a"}, api.ErrShape},
		{api.File{Name: "0a"}, api.ErrShape},
		{api.File{Name: "abcdefghi"}, api.ErrShape},
		{api.File{Name: "A", Text: long}, api.ErrShape},
		{api.File{Name: "a", Text: long}, api.ErrMany},
		{api.File{Name: "b", Text: strings.Repeat("z", 1000)}, api.ErrMany},
	}
	for _, test := range tests {
		if err := x.Put(test.file); err != test.want {
			t.Errorf("Put(%v): %v, wanted %v", test.file, err, test.want)
		}
	}
	expectBoth(t, d, x, "a=xy", "")
	if after := room(t, d); after != before {
		t.Errorf("room %d, before %d", after, before)
	}
}

// An invalid file is found before it is known that the disk is down.
func TestPutErrorsInOrder(t *testing.T) {
	d, x := fresh(t, 60, "")
	d.Arm(0)
	for range 2 {
		if err := x.Put(api.File{Name: "A"}); err != api.ErrShape {
			t.Error(err)
		}
		if err := x.Drop("a"); err != api.ErrNone {
			t.Error(err)
		}
		d.Flush()
	}
	if err := x.Put(api.File{Name: "a"}); err != api.ErrDown {
		t.Error(err)
	}
}

// many returns n files in words, sorted.
func many(n int) string {
	var l []string
	for i := range n {
		l = append(l, "n"+string(rune('a'+i))+"="+strconv.Itoa(i))
	}
	return strings.Join(l, " ")
}

func TestPutTooMany(t *testing.T) {
	d, x := fresh(t, api.Sectors, many(api.MaxFiles))
	for range 2 {
		if err := x.Put(api.File{Name: "one"}); err != api.ErrFull {
			t.Error(err)
		}
		expectBoth(t, d, x, many(api.MaxFiles), "")
	}
	put(t, x, "na=0")
	drop(t, x, "na")
	put(t, x, "one=1")
	if err := x.Put(api.File{Name: "na"}); err != api.ErrFull {
		t.Error(err)
	}
}

func TestDrop(t *testing.T) {
	d, x := fresh(t, 80, given)
	for _, name := range []string{"", "b", "A", "f/a", "x.", "x.cc", "abcdefghi", "\x00"} {
		if err := x.Drop(name); err != api.ErrNone {
			t.Errorf("Drop(%q): %v", name, err)
		}
	}
	expectBoth(t, d, x, given, "")
	drop(t, x, "x.c a")
	expectBoth(t, d, x, "u=1 y.c=cd", "")
	if err := x.Drop("a"); err != api.ErrNone {
		t.Error(err)
	}
	put(t, x, "a=q")
	expectBoth(t, d, x, "a=q u=1 y.c=cd", "")
	drop(t, x, "y.c a u")
	expectBoth(t, d, x, "", "")
}

// The record of a file that is put or dropped stays.
func TestKept(t *testing.T) {
	d, x := fresh(t, api.Sectors, given)
	expectBuild(t, x, source, "w", "v w 0")
	expectBuild(t, x, source, "c", "x.o y.o b c 0")
	expectBoth(t, d, x, built, "b c v w x.o y.o")
	drop(t, x, "v b")
	put(t, x, "w=hay")
	for _, name := range []string{"v", "b"} {
		if err := x.Drop(name); err != api.ErrNone {
			t.Error(name, err)
		}
	}
	expectBoth(t, d, x, "a=xy c=zy d=badc u=1 w=hay x.c=ab x.o=ba y.c=cd y.o=dc", "b c v w x.o y.o")
}

func TestPutAndDropAreOneCommitEach(t *testing.T) {
	d, x := fresh(t, 80, "")
	for i, f := range have("a=1 a=1 b= a=2") {
		put(t, x, f.Name+"="+f.Text)
		if got, want := room(t, d), 36-2*(i+1); got != want {
			t.Errorf("room %d, wanted %d", got, want)
		}
	}
	drop(t, x, "a")
	if got := room(t, d); got != 26 {
		t.Errorf("room %d", got)
	}
	if err := x.Drop("a"); err != api.ErrNone || room(t, d) != 26 {
		t.Error(err, room(t, d))
	}
}

func TestShopsShareNothing(t *testing.T) {
	_, x := fresh(t, 80, given)
	_, y := fresh(t, 80, "a=1")
	expectBuild(t, x, source, "v", "v 0")
	drop(t, x, "a")
	put(t, y, "u=3")
	expectShop(t, x, "u=1 v=1 x.c=ab y.c=cd", "v")
	expectShop(t, y, "a=1 u=3", "")
}

func TestResultsAreNew(t *testing.T) {
	d, x := fresh(t, api.Sectors, given)
	expectBuild(t, x, source, "all", "x.o y.o b c v w 0")
	put(t, x, "x.c=ba")
	clear(x.Files())
	clear(x.Kept())
	groups, units, err := x.Plan(source, "all")
	if err != nil || len(units) != 1 {
		t.Fatal(units, err)
	}
	for i := range groups {
		clear(groups[i].Targets)
		clear(groups[i].Needs)
		clear(groups[i].Cmds)
	}
	clear(groups)
	clear(units[0])
	clear(units)
	expectShop(t, x, strings.Replace(built, "x.c=ab", "x.c=ba", 1), "b c v w x.o y.o")
	expectPlan(t, x, source, "all", "x.o b c")
	outcomes, err := x.Build(source, "all", true)
	if got := outcomesShown(outcomes); err != nil || got != "x.o b c 0" {
		t.Fatal(got, err)
	}
	clear(outcomes[0].Names)
	clear(outcomes)
	expectPlan(t, x, source, "all", "")
	expectBoth(t, d, x, "a=xy b=abdc c=zy d=abdc u=1 v=1 w=11 x.c=ba x.o=ab y.c=cd y.o=dc", "b c v w x.o y.o")
}

// N2.

func TestPlan(t *testing.T) {
	_, x := fresh(t, 80, given)
	for _, goal := range []string{"all", "b", "c", "d", "w", "v", "x.o"} {
		m, err := makefile.Parse(source)
		if err != nil {
			t.Fatal(err)
		}
		want, err := graph.Of(m, x.Files(), goal)
		if err != nil {
			t.Fatal(err)
		}
		groups, units, err := x.Plan(source, goal)
		if err != nil || !reflect.DeepEqual(groups, want) {
			t.Errorf("%s: %v, %v, wanted %v", goal, groups, err, want)
		}
		if len(units) != 1 || len(units[0]) != len(groups) {
			t.Errorf("%s: %v", goal, units)
			continue
		}
		for i, at := range units[0] {
			if at != i {
				t.Errorf("%s: %v", goal, units)
			}
		}
	}
}

// Groups that are fresh are among the groups, but in no unit.
func TestPlanOfSome(t *testing.T) {
	_, x := fresh(t, 80, given)
	expectBuild(t, x, source, "x.o", "x.o 0")
	expectBuild(t, x, source, "v", "v 0")
	groups, units, err := x.Plan(source, "all")
	if err != nil || len(groups) != 7 || len(units) != 1 || !slices.Equal(units[0], []int{1, 2, 3, 5, 6}) {
		t.Error(groups, units, err)
	}
}

func TestPlanOfPhonyNames(t *testing.T) {
	_, x := fresh(t, 80, "a=1")
	const source = "phony p\nphony q\np : q a\nq :\nb : p\n\tput b 1"
	expectPlan(t, x, source, "p", "")
	expectPlan(t, x, source, "b", "b")
	expectBuild(t, x, source, "p", "")
	expectBuild(t, x, source, "b", "b 0")
	expectPlan(t, x, source, "b", "")
	// A file with the name of a phony one is a need like others.
	put(t, x, "p=1")
	expectPlan(t, x, source, "b", "b")
}

// The goal may be a file that nothing makes.
func TestPlanOfFiles(t *testing.T) {
	_, x := fresh(t, 80, given)
	for _, source := range []string{"", source, "# nothing"} {
		groups, units, err := x.Plan(source, "a")
		if err != nil || len(groups) != 0 || len(units) != 0 {
			t.Error(groups, units, err)
		}
		expectBuild(t, x, source, "a", "")
	}
}

func TestPlanAfterChanges(t *testing.T) {
	_, x := fresh(t, api.Sectors, given)
	expectBuild(t, x, source, "all", "x.o y.o b c v w 0")
	tests := []struct{ drop, put, want string }{
		{"", "", ""},
		{"", "other=1 e= x.d=1", ""},
		{"", "x.c=ab", ""},
		{"", "x.c=ba", "x.o b c"},
		{"", "x.c=ab", ""},
		{"", "a=x", "c"},
		{"", "u=", "c v w"},
		{"", "a=xy u=1", ""},
		{"d", "", "c"},
		{"", "d=hay", "c"},
		{"", "d=badc", ""},
		{"x.o", "", "x.o b c"},
		{"", "x.o=ba", ""},
		// Without y.c, nothing makes y.o, which is then a file like others.
		{"y.c", "", ""},
		{"", "y.o=1", "b c"},
		{"", "y.o=dc y.c=d", "y.o b c"},
		{"b", "y.c=cd", "b c"},
		{"", "b=badc", ""},
	}
	for i, test := range tests {
		drop(t, x, test.drop)
		put(t, x, test.put)
		expectPlan(t, x, source, "all", test.want)
		if t.Failed() {
			t.Fatalf("after change %d", i)
		}
	}
}

func TestPlanAfterChangesOfTheSource(t *testing.T) {
	_, x := fresh(t, api.Sectors, "a=1 b=2")
	expectBuild(t, x, "c : a b\n\tjoin $@ $^\nd : c\n\tcopy c d", "d", "c d 0")
	tests := []struct{ source, want string }{
		{"c : a b\n\tjoin $@ $^\nd : c\n\tcopy c d", ""},
		{"# the same\nV = c\n$(V) : a b\n\tjoin c a b\nd : $(V)\n\tcopy $< $@", ""},
		{"d : c\n\tcopy $< $@\nc : a b\n\tjoin $@ a b", ""},
		{"c : b a\n\tjoin $@ a b\nd : c\n\tcopy c d", "c d"},
		{"c : a b\n\tjoin $@ $^\n\tneed a\nd : c\n\tcopy c d", "c d"},
		{"c : a b\n\tjoin $@ $^\nd : c\n\tneed c\n\tcopy c d", "d"},
		{"d : c\n\tcopy c d", ""},
	}
	for _, test := range tests {
		expectPlan(t, x, test.source, "d", test.want)
	}
}

// errorsOfPlan are what Plan and Build find wrong, with the files of given.
func errorsOfPlan() []struct {
	source, goal string
	want         error
} {
	return []struct {
		source, goal string
		want         error
	}{
		{"", "", api.ErrShape},
		{source, "B", api.ErrShape},
		{source, "abcdefghi", api.ErrShape},
		{source, "x.o y.o", api.ErrShape},
		{source, "none", api.ErrNone},
		{"", "none", api.ErrNone},
		{"b : none\n\tcopy none b", "b", api.ErrNone},
		{"b : c\n\tcopy c b\nc : b\n\tcopy b c", "b", api.ErrRound},
		{"b : a", "b", api.ErrShape},
		{"b : b\n\tfail", "a", api.ErrShape},
		{"b : $(X)\n\tfail", "b", api.ErrNone},
		{"hay", "a", api.ErrText},
		{"\tfail", "a", api.ErrText},
		{strings.Repeat("\n", api.MaxSource+1), "a", api.ErrMany},
		// The description comes first.
		{"hay", "B", api.ErrText},
		{"hay", "none", api.ErrText},
		{strings.Repeat("#", api.MaxSource+1), "none", api.ErrMany},
	}
}

func TestPlanErrors(t *testing.T) {
	d, x := fresh(t, 80, given)
	before := room(t, d)
	for _, test := range errorsOfPlan() {
		groups, units, err := x.Plan(test.source, test.goal)
		if err != test.want || len(groups) != 0 || len(units) != 0 {
			t.Errorf("Plan(%q, %q): %v, %v, %v, wanted %v", test.source, test.goal, groups, units, err, test.want)
		}
		for _, on := range []bool{false, true} {
			outcomes, err := x.Build(test.source, test.goal, on)
			if err != test.want || len(outcomes) != 0 {
				t.Errorf("Build(%q, %q): %v, %v, wanted %v", test.source, test.goal, outcomes, err, test.want)
			}
		}
	}
	expectBoth(t, d, x, given, "")
	if room(t, d) != before {
		t.Error(room(t, d), before)
	}
}

func TestPlanOfTooManyGroups(t *testing.T) {
	_, x := fresh(t, 80, "a=1")
	const source = "%1 : %\n\tcopy $< $@\nb : a\n\tcopy a b\n"
	long := source
	for i := range 8 {
		from, to := string(rune('b'+i)), string(rune('c'+i))
		long += to + " : " + from + "\n\tcopy " + from + " " + to + "\n"
	}
	if groups, _, err := x.Plan(long, "j"); err != nil || len(groups) != 9 {
		t.Error(groups, err)
	}
	if groups, _, err := x.Plan(long, "j1"); err != nil || len(groups) != 10 {
		t.Error(groups, err)
	}
	put(t, x, "j1=1")
	if groups, _, err := x.Plan(long, "j11"); err != api.ErrMany || len(groups) != 0 {
		t.Error(groups, err)
	}
	if outcomes, err := x.Build(long, "j11", true); err != api.ErrMany || len(outcomes) != 0 {
		t.Error(outcomes, err)
	}
	expectShop(t, x, "a=1 j1=1", "")
}

// To plan, and to build nothing, is no step of the disk.
func TestPlanChangesNothing(t *testing.T) {
	d, x := fresh(t, 80, given)
	d.Arm(0)
	for range 3 {
		expectPlan(t, x, source, "b", "x.o y.o b")
		expectBuild(t, x, source, "a", "")
	}
	if d.Down() {
		t.Error("the disk is down")
	}
	expectBoth(t, d, x, given, "")
}

// N3.

func TestBuild(t *testing.T) {
	for _, on := range []bool{false, true} {
		d, x := fresh(t, api.Sectors, given)
		outcomes, err := x.Build(source, "all", on)
		if err != nil || len(outcomes) != 1 || outcomes[0].Err != api.OK || !slices.Equal(outcomes[0].Names, []string{"x.o", "y.o", "b", "c", "v", "w"}) {
			t.Error(outcomes, err)
		}
		expectBoth(t, d, x, built, "b c v w x.o y.o")
		for range 2 {
			if outcomes, err := x.Build(source, "all", on); err != nil || len(outcomes) != 0 {
				t.Error(outcomes, err)
			}
			x = open(t, d)
		}
	}
}

func TestBuildAfterChanges(t *testing.T) {
	d, x := fresh(t, api.Sectors, given)
	expectBuild(t, x, source, "b", "x.o y.o b 0")
	expectBuild(t, x, source, "all", "c v w 0")
	expectBoth(t, d, x, built, "b c v w x.o y.o")
	put(t, x, "u=2 other=1")
	expectBuild(t, x, source, "b", "")
	expectBuild(t, x, source, "all", "v w 0")
	put(t, x, "x.c=q")
	expectBuild(t, x, source, "d", "x.o b c 0")
	put(t, x, "d=hay")
	expectBuild(t, x, source, "all", "c 0")
	expectBoth(t, d, x, "a=xy b=qdc c=zy d=qdc other=1 u=2 v=2 w=22 x.c=q x.o=q y.c=cd y.o=dc", "b c v w x.o y.o")
}

// The session among the document's examples.
func TestBuildOfTheDocument(t *testing.T) {
	source := "# what is made of what\nOBJ = x.o y.o\n%.o : %.c\n\tturn $< $@\nb : $(OBJ)\n\tjoin $@ $^\nc : a\n\tswap $< $@ x z\nphony all\nall : b c\n"
	d, x := fresh(t, api.Sectors, "a=xy x.c=ab y.c=cd")
	expectPlan(t, x, source, "all", "x.o y.o b c")
	expectBuild(t, x, source, "all", "x.o y.o b c 0")
	expectBoth(t, d, x, "a=xy b=badc c=zy x.c=ab x.o=ba y.c=cd y.o=dc", "b c x.o y.o")
	expectPlan(t, x, source, "all", "")
	put(t, x, "x.c=abc")
	expectPlan(t, x, source, "all", "x.o b")
	expectBuild(t, x, source, "all", "x.o b 0")
	put(t, x, "b=hay")
	expectPlan(t, x, source, "all", "b")
	expectBuild(t, x, source, "b", "b 0")
	source += "d : a c\n\tneed a\n\tcopy $< $@\n"
	put(t, x, "a=")
	expectPlan(t, x, source, "d", "c d")
	expectBuild(t, x, source, "d", "c d 7")
	expectBoth(t, d, x, "a= b=cbadc c=zy x.c=abc x.o=cba y.c=cd y.o=dc", "b c x.o y.o")
	put(t, x, "a=q")
	d.Restart(0)
	x = open(t, d)
	expectBuild(t, x, source, "d", "c d 0")
	expectBoth(t, d, x, "a=q b=cbadc c=q d=q x.c=abc x.o=cba y.c=cd y.o=dc", "b c d x.o y.o")
	drop(t, x, "y.c")
	expectPlan(t, x, source, "all", "")
}

func TestBuildOfAUnitThatFails(t *testing.T) {
	d, x := fresh(t, api.Sectors, "a=xy u= x.c=ab y.c=cd")
	before := room(t, d)
	for _, on := range []bool{false, true} {
		outcomes, err := x.Build(source, "all", on)
		if got := outcomesShown(outcomes); err != nil || got != "x.o y.o b c v w 7" {
			t.Error(got, err)
		}
		expectBoth(t, d, x, "a=xy u= x.c=ab y.c=cd", "")
	}
	if room(t, d) != before {
		t.Error(room(t, d), before)
	}
	expectBuild(t, x, source, "c", "x.o y.o b c 0")
	expectBuild(t, x, source, "all", "v w 7")
	expectBoth(t, d, x, "a=xy b=badc c=zy d=badc u= x.c=ab x.o=ba y.c=cd y.o=dc", "b c x.o y.o")
	put(t, x, "u=1")
	expectBuild(t, x, source, "all", "v w 0")
	expectBoth(t, d, x, built, "b c v w x.o y.o")
}

func TestBuildErrors(t *testing.T) {
	long := strings.Repeat("z", api.MaxText)
	tests := []struct {
		source string
		want   api.Errno
	}{
		{"b : a\n\tfail", api.ErrFail},
		{"b : a\n\tneed a", api.ErrNone},
		{"b : a\n\tfly a b", api.ErrText},
		{"b : a\n\tcopy u b", api.ErrBarred},
		{"b : a\n\tcopy a c", api.ErrBarred},
		{"b c : a\n\tcopy a b", api.ErrNone},
		{"phony p\np : a\nb : p\n\tcopy p b", api.ErrNone},
		{"b : a l\n\tjoin b a l", api.ErrMany},
		{"b : a\n\tcopy a b\n\tfail", api.ErrFail},
	}
	for _, test := range tests {
		d, x := fresh(t, 80, "a=xy b=old l="+long)
		expectBuild(t, x, test.source, "b", "b "+strconv.Itoa(int(test.want)))
		expectBoth(t, d, x, "a=xy b=old l="+long, "")
		expectPlan(t, x, test.source, "b", "b")
	}
}

// The text of a record must fit into a row.
func TestBuildOfALongRecord(t *testing.T) {
	const empty = "aaaaaaaa= bbbbbbbb= cccccccc="
	const rule = "dddddddd : aaaaaaaa bbbbbbbb cccccccc\n\tjoin $@ $^ $^ $^ $^ $^\n\tjoin $@ $^ $^\n\tput $@ "
	d, x := fresh(t, api.Sectors, empty)
	expectBuild(t, x, rule+"1234", "dddddddd", "dddddddd 10")
	expectBoth(t, d, x, empty, "")
	expectBuild(t, x, rule+"123", "dddddddd", "dddddddd 0")
	expectBoth(t, d, x, empty+" dddddddd=123", "dddddddd")
	s, err := store.Open(d)
	if err != nil {
		t.Fatal(err)
	}
	if got := s.Rows()[0].Val; len(got) != api.MaxKeep {
		t.Errorf("%q has %d bytes", got, len(got))
	}
	put(t, x, "bbbbbbbb=z")
	expectBuild(t, x, rule+"123", "dddddddd", "dddddddd 10")
	expectBoth(t, d, x, "aaaaaaaa= bbbbbbbb=z cccccccc= dddddddd=123", "dddddddd")
	put(t, x, "bbbbbbbb=")
	expectPlan(t, x, rule+"123", "dddddddd", "")
}

func TestBuildOfTooManyFiles(t *testing.T) {
	d, x := fresh(t, api.Sectors, many(api.MaxFiles-1))
	before := room(t, d)
	const source = "b c : na\n\tcopy na b\n\tcopy na c\nd : na\n\tcopy na d"
	expectBuild(t, x, source, "b", "b 10")
	expectBoth(t, d, x, many(api.MaxFiles-1), "")
	if room(t, d) != before {
		t.Error(room(t, d), before)
	}
	expectBuild(t, x, source, "d", "d 0")
	expectBuild(t, x, source, "b", "b 10")
	drop(t, x, "nb")
	expectBuild(t, x, source, "b", "b 10")
	drop(t, x, "nc")
	expectBuild(t, x, source, "b", "b 0")
}

func TestBuildOfTooManyRecords(t *testing.T) {
	d, x := fresh(t, api.Sectors, "a=1")
	for i := range api.MaxFiles {
		name := "n" + string(rune('a'+i))
		expectBuild(t, x, name+" : a\n\tcopy $< $@", name, name+" 0")
		drop(t, x, name)
	}
	if len(x.Kept()) != api.MaxFiles {
		t.Error(x.Kept())
	}
	before := shown(x)
	expectBuild(t, x, "b : a\n\tcopy $< $@", "b", "b 10")
	if shown(x) != before || shown(open(t, d)) != before {
		t.Error(shown(x), shown(open(t, d)))
	}
	expectBuild(t, x, "na : a\n\tturn $< $@", "na", "na 0")
}

// On a small disk, the log has room for few changes.
func TestBuildOnASmallDisk(t *testing.T) {
	d, x := fresh(t, least, "a=1")
	const source = "b c : a\n\tcopy a b\n\tcopy a c\nd : a\n\tcopy a d\ne : b d\n\tcopy b e\nf : d\n\tcopy d f"
	expectBuild(t, x, source, "e", "b d e 10")
	expectBoth(t, d, x, "a=1", "")
	expectBuild(t, x, source, "b", "b 0")
	expectBuild(t, x, source, "e", "d e 0")
	expectBoth(t, d, x, "a=1 b=1 c=1 d=1 e=1", "b d e")
	expectBuild(t, x, source, "f", "f 0")
	for i := range 20 {
		put(t, x, "a="+strconv.Itoa(i))
		expectBuild(t, x, source, "f", "d f 0")
	}
	expectBoth(t, d, x, "a=19 b=1 c=1 d=19 e=1 f=19", "b d e f")
}

// A unit is one commit of all files and records.
func TestBuildIsOneCommit(t *testing.T) {
	d, x := fresh(t, api.Sectors, given)
	before := room(t, d)
	expectBuild(t, x, source, "c", "x.o y.o b c 0")
	if got := room(t, d); got != before-10 {
		t.Errorf("room %d, before %d", got, before)
	}
	_, entries, err := log.Open(d, logStart, api.Sectors-logStart, 1)
	if err != nil || len(entries) != 5 {
		t.Fatal(entries, err)
	}
	var keys []string
	for _, c := range entries[4] {
		keys = append(keys, c.Key)
		if name, is := strings.CutPrefix(c.Key, row.Made("")); is {
			if r, err := record.Parse(c.Val); err != nil || r.Out[0].Name != name {
				t.Error(c, err)
			}
		}
	}
	slices.Sort(keys)
	if want := strings.Fields("d/b d/c d/x.o d/y.o f/b f/c f/d f/x.o f/y.o"); !slices.Equal(keys, want) {
		t.Errorf("%q", keys)
	}
}

func TestRecords(t *testing.T) {
	d, x := fresh(t, api.Sectors, given)
	expectBuild(t, x, source, "all", "x.o y.o b c v w 0")
	s, err := store.Open(d)
	if err != nil {
		t.Fatal(err)
	}
	want := map[string]string{
		"x.o": "1 1 1 12:turn x.c x.o x.c 2:ab x.o 2:ba",
		"y.o": "1 1 1 12:turn y.c y.o y.c 2:cd y.o 2:dc",
		"b":   "1 2 1 14:join b x.o y.o x.o 2:ba y.o 2:dc b 4:badc",
		"c":   "2 2 2 12:swap a c x z 8:copy b d a 2:xy b 4:badc c 2:zy d 4:badc",
		"v":   "2 1 1 6:need u 8:copy u v u 1:1 v 1:1",
		"w":   "1 1 1 10:join w v v v 1:1 w 2:11",
	}
	for _, c := range s.Rows() {
		if name, is := strings.CutPrefix(c.Key, row.Made("")); is && c.Val != want[name] {
			t.Errorf("%s: %q, wanted %q", name, c.Val, want[name])
		}
	}
	if len(x.Kept()) != len(want) {
		t.Error(x.Kept())
	}
}

// The order in which a map is ranged over does not show, not even on the disk.
func TestBuildAlwaysWritesTheSame(t *testing.T) {
	sectors := func() string {
		d, x := fresh(t, api.Sectors, given)
		expectBuild(t, x, source, "all", "x.o y.o b c v w 0")
		var b strings.Builder
		for at := range api.Sectors {
			s, err := d.Read(at)
			if err != nil {
				t.Fatal(err)
			}
			b.WriteString(s)
		}
		return b.String()
	}
	first := sectors()
	for range 20 {
		if sectors() != first {
			t.Fatal("the disks differ")
		}
	}
}

// some returns groups without a connection, of which the second and the fourth
// fail, and the unit of each.
func some(t *testing.T) ([]api.Group, [][]int) {
	t.Helper()
	m, err := makefile.Parse("b : a\n\tcopy a b\nc : a\n\tfail\nd : a\n\tcopy a d\ne : a\n\tneed u\nf : a\n\tcopy a f\nphony p\np : b c d\n")
	if err != nil {
		t.Fatal(err)
	}
	var groups []api.Group
	var units [][]int
	for i, r := range m.Rules {
		groups = append(groups, api.Group{Targets: r.Targets, Needs: r.Needs, Cmds: r.Cmds, Phony: len(r.Cmds) == 0})
		units = append(units, []int{i})
	}
	units = units[:5]
	units[4] = []int{4, 5}
	return groups, units
}

func TestUnitsAfterAnError(t *testing.T) {
	groups, units := some(t)
	d, x := fresh(t, 80, "a=1")
	if got := outcomesShown(x.BuildUnits(groups, units, false)); got != "b 0; c 7" {
		t.Error(got)
	}
	expectBoth(t, d, x, "a=1 b=1", "b")
	d, x = fresh(t, 80, "a=1")
	if got := outcomesShown(x.BuildUnits(groups, units, true)); got != "b 0; c 7; d 0; e 6; f 0" {
		t.Error(got)
	}
	expectBoth(t, d, x, "a=1 b=1 d=1 f=1", "b d f")
	if got := outcomesShown(x.BuildUnits(groups, units[4:], false)); got != "f 0" {
		t.Error(got)
	}
	if got := x.BuildUnits(groups, nil, true); len(got) != 0 {
		t.Error(got)
	}
}

// A unit is built with what the units before it wrote.
func TestUnitsSeeWhatThereIs(t *testing.T) {
	m, err := makefile.Parse("b : a\n\tturn a b\nc : b\n\tjoin c b b")
	if err != nil {
		t.Fatal(err)
	}
	var groups []api.Group
	for _, r := range m.Rules {
		groups = append(groups, api.Group{Targets: r.Targets, Needs: r.Needs, Cmds: r.Cmds})
	}
	d, x := fresh(t, 80, "a=xy b=old")
	if got := outcomesShown(x.BuildUnits(groups, [][]int{{0}, {1}}, false)); got != "b 0; c 0" {
		t.Error(got)
	}
	expectBoth(t, d, x, "a=xy b=yx c=yxyx", "b c")
}

// After the disk has failed, no further unit is built. What was built before stays.
func TestUnitsOnFailingDisk(t *testing.T) {
	groups, units := some(t)
	wanted := []string{"b 11", "b 0; c 7; d 11", "b 0; c 7; d 0; e 6; f 11", "b 0; c 7; d 0; e 6; f 0"}
	before := []string{"a=1; ", "a=1 b=1; b", "a=1 b=1 d=1; b d", "a=1 b=1 d=1 f=1; b d f"}
	at := 0
	for steps, failed := 0, true; failed; steps++ {
		d, x := fresh(t, 80, "a=1")
		d.Arm(steps)
		got := outcomesShown(x.BuildUnits(groups, units, true))
		failed = d.Down()
		for at < len(wanted)-1 && got != wanted[at] {
			at++
		}
		if got != wanted[at] || failed != strings.HasSuffix(got, " 11") {
			t.Errorf("%d steps: %s", steps, got)
		}
		d.Restart(0)
		if after := shown(open(t, d)); after != before[at] {
			t.Errorf("%d steps: %s", steps, after)
		}
	}
	if at != len(wanted)-1 {
		t.Error(at)
	}
}

// Without on, the disk's failure ends a build as well.
func TestUnitsOnDownDisk(t *testing.T) {
	groups, units := some(t)
	for _, on := range []bool{false, true} {
		d, x := fresh(t, 80, "a=1")
		d.Arm(0)
		if got := outcomesShown(x.BuildUnits(groups, units, on)); got != "b 11" {
			t.Error(got)
		}
		d.Restart(0)
		expectShop(t, open(t, d), "a=1", "")
	}
}

func TestSave(t *testing.T) {
	d, x := fresh(t, api.Sectors, given)
	expectBuild(t, x, source, "all", "x.o y.o b c v w 0")
	for range 3 {
		if err := x.Save(); err != nil {
			t.Fatal(err)
		}
		if got := room(t, d); got != api.Sectors-logStart {
			t.Errorf("room %d", got)
		}
		d.Restart(0)
		expectBoth(t, d, x, built, "b c v w x.o y.o")
		expectPlan(t, open(t, d), source, "all", "")
		put(t, x, "a=xy")
	}
}

func TestSaveOnFailingDisk(t *testing.T) {
	for steps, failed := 0, true; failed; steps++ {
		for _, keep := range keeps() {
			d, x := fresh(t, 60, "a=xy u=1")
			expectBuild(t, x, source, "w", "v w 0")
			d.Arm(steps)
			err := x.Save()
			failed = d.Down()
			if failed != (err == api.ErrDown) || !failed && err != nil {
				t.Fatal(err)
			}
			d.Restart(keep)
			expectShop(t, open(t, d), "a=xy u=1 v=1 w=11", "v w")
		}
	}
}

func TestErrDown(t *testing.T) {
	d, x := fresh(t, 60, "a=1")
	d.Arm(0)
	for range 2 {
		if err := x.Put(api.File{Name: "a"}); err != api.ErrDown {
			t.Error(err)
		}
		if err := x.Drop("a"); err != api.ErrDown {
			t.Error(err)
		}
		if err := x.Save(); err != api.ErrDown {
			t.Error(err)
		}
		expectBuild(t, x, "b : a\n\tcopy a b", "b", "b 11")
	}
	d.Restart(0)
	expectShop(t, open(t, d), "a=1", "")
}

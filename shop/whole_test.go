package shop_test

import (
	"math"
	"slices"
	"strconv"
	"strings"
	"testing"

	"hammerpond/api"
	"hammerpond/build"
	"hammerpond/disk"
	"hammerpond/files"
	"hammerpond/graph"
	"hammerpond/makefile"
	"hammerpond/shop"
)

// chance returns a function that returns numbers less than n which look random,
// and are the same for the same seed.
func chance(seed uint32) func(n int) int {
	return func(n int) int {
		seed = seed*1664525 + 1013904223
		return int(seed>>16) % n
	}
}

// keeps returns numbers that tell a disk which writes it keeps.
func keeps() []uint64 {
	l := []uint64{0, math.MaxUint64, 0x5555555555555555, 0xaaaaaaaaaaaaaaaa, math.MaxUint64 - 1, 0xff00ff00ff00ff00}
	for bit := range 6 {
		l = append(l, 1<<bit, 1<<bit-1)
	}
	return l
}

// sources are descriptions that agree in some of what they make.
func sources() []string {
	return []string{
		source,
		"phony all\nall : b w\nb : x.o y.o\n\tjoin $@ $^\n%.o : %.c\n\tcopy $< $@\nw : a\n\tneed a\n\tturn a w",
		"phony all\nphony some\nall : d some\nsome : v x.o\nd c : a\n\tcopy a d\n\tturn a c\nv : u c\n\tjoin v u c\nx.o : x.c some2\n\tturn x.c x.o\nphony some2\nsome2 : y.o\n%.o : %.c\n\tturn $< $@",
		"phony all\nall : b e\nb e : c\n\tswap c b 1 2\n\tcopy c e\nc : x.c u\n\tput c 1\n\tneed u\n\tjoin c x.c c",
	}
}

// groupsOf returns what a goal needs, given files.
func groupsOf(t *testing.T, source string, l []api.File, goal string) ([]api.Group, error) {
	t.Helper()
	m, err := makefile.Parse(source)
	if err != nil {
		t.Fatalf("%q: %v", source, err)
	}
	return graph.Of(m, l, goal)
}

// scratch returns files after all groups were built from those files that none of
// them makes, or the first error.
func scratch(groups []api.Group, l []api.File) ([]api.File, error) {
	for _, g := range groups {
		if g.Phony {
			continue
		}
		for _, target := range g.Targets {
			l = files.Drop(l, target)
		}
	}
	for _, g := range groups {
		if g.Phony {
			continue
		}
		out, _, err := build.One(g, l)
		if err != nil {
			return nil, err
		}
		for _, f := range out {
			l = files.Put(l, f)
		}
	}
	return l, nil
}

// change puts or drops some file.
func change(t *testing.T, x *shop.Shop, next func(int) int) {
	t.Helper()
	all := strings.Fields("a b c d e u v w x.c x.o y.c y.o all other")
	name := all[next(len(all))]
	if next(4) == 0 {
		if err := x.Drop(name); err != nil && err != api.ErrNone {
			t.Fatal(err)
		}
		return
	}
	text := strings.Repeat(strconv.Itoa(next(3)), next(5))
	if err := x.Put(api.File{Name: name, Text: text}); err != nil {
		t.Fatal(err)
	}
}

func failed(outcomes []api.Outcome) bool {
	return slices.ContainsFunc(outcomes, func(o api.Outcome) bool { return o.Err != api.OK })
}

// expectScratch builds, and expects what a build from scratch gives.
func expectScratch(t *testing.T, x *shop.Shop, source, goal string) bool {
	t.Helper()
	before, kept := x.Files(), x.Kept()
	groups, graphErr := groupsOf(t, source, before, goal)
	outcomes, err := x.Build(source, goal, false)
	if err != nil || graphErr != nil {
		if err != graphErr {
			t.Fatalf("%q, %s: %v, wanted %v", source, goal, err, graphErr)
		}
		return false
	}
	want, oneErr := scratch(groups, before)
	if failed(outcomes) {
		if oneErr == nil {
			t.Fatalf("%q, %s of %v: %v", source, goal, before, outcomes)
		}
		want = before
		if !slices.Equal(x.Kept(), kept) {
			t.Fatalf("%q, %s: records %q, before %q", source, goal, x.Kept(), kept)
		}
	} else if oneErr != nil {
		t.Fatalf("%q, %s of %v: %v, wanted %v", source, goal, before, outcomes, oneErr)
	}
	if got := x.Files(); !slices.Equal(got, want) {
		t.Fatalf("%q, %s of %v: %v, wanted %v", source, goal, before, got, want)
	}
	return !failed(outcomes)
}

// goals of which each of sources has some.
func goals() []string { return strings.Fields("all b c d w v x.o y.o some e none") }

// W1. After many changes by many descriptions, a build gives what a build from
// scratch gives, and changes no other file.
func TestBuildEqualsBuildFromScratch(t *testing.T) {
	for seed := range uint32(4) {
		next := chance(seed)
		d, x := fresh(t, 70+10*int(seed), given)
		good := 0
		for range 800 {
			for range next(3) {
				change(t, x, next)
			}
			if next(5) == 0 {
				x = open(t, d)
			}
			if next(20) == 0 {
				if err := x.Save(); err != nil {
					t.Fatal(err)
				}
			}
			source := sources()[next(len(sources()))]
			goal := goals()[next(len(goals()))]
			if expectScratch(t, x, source, goal) {
				good++
				expectPlan(t, x, source, goal, "")
				expectPlan(t, open(t, d), source, goal, "")
			}
		}
		if good < 200 {
			t.Errorf("only %d builds without an error", good)
		}
	}
}

// W1. It does so when the disk fails now and then.
func TestBuildEqualsBuildFromScratchOnFailingDisk(t *testing.T) {
	next := chance(7)
	d, x := fresh(t, 70, given)
	failures := 0
	for range 2000 {
		d.Arm(next(40))
		if next(2) == 0 {
			x.Put(api.File{Name: "a", Text: strconv.Itoa(next(100))})
			x.Drop("y.o")
		}
		if next(10) == 0 {
			x.Save()
		}
		x.Build(sources()[next(len(sources()))], "all", next(2) == 0)
		if d.Down() {
			failures++
		}
		d.Restart(uint64(next(1<<16))<<32 | uint64(next(1<<16))<<16 | uint64(next(1<<16)))
		x = open(t, d)
		expectScratch(t, x, sources()[next(len(sources()))], goals()[next(len(goals()))])
	}
	if failures < 200 {
		t.Errorf("only %d failures", failures)
	}
}

// history has, by the first target, what a group was given and gave when it was
// built without an error.
type history map[string]string

// look returns what each group is given and gives now: its commands, what its
// needs were made of, and its files.
func look(groups []api.Group, l []api.File) []string {
	var looks []string
	for _, g := range groups {
		s := strings.Join(g.Cmds, "\n")
		for _, name := range slices.Concat(g.Needs, g.Targets) {
			text, is := files.Get(l, name)
			s += "\n" + name + " " + strconv.FormatBool(is) + " " + text
			if at := graph.Maker(groups[:len(looks)], name); at >= 0 {
				s += "(" + looks[at] + ")"
			}
		}
		looks = append(looks, s)
	}
	return looks
}

// settled reports for each group whether nothing of what it needs has changed.
func (h history) settled(groups []api.Group, looks []string) []bool {
	var l []bool
	for i, g := range groups {
		is := g.Phony || h[g.Targets[0]] == looks[i]
		for _, need := range g.Needs {
			at := graph.Maker(groups[:i], need)
			is = is && (at < 0 || l[at])
		}
		l = append(l, is)
	}
	return l
}

// W2. What was built is not built again as long as what it needs is the same.
func TestBuiltOnlyOnce(t *testing.T) {
	next := chance(3)
	d, x := fresh(t, api.Sectors, given)
	h := history{}
	spared := 0
	for range 2000 {
		change(t, x, next)
		if next(5) == 0 {
			x = open(t, d)
		}
		source := sources()[next(len(sources()))]
		goal := goals()[next(len(goals()))]
		groups, units, err := x.Plan(source, goal)
		if err != nil {
			continue
		}
		settled := h.settled(groups, look(groups, x.Files()))
		for _, unit := range units {
			for _, at := range unit {
				if settled[at] {
					t.Fatalf("%q, %s: %v is built again", source, goal, groups[at].Targets)
				}
			}
		}
		outcomes, err := x.Build(source, goal, false)
		if err != nil || len(outcomes) != len(units) {
			t.Fatal(outcomes, err)
		}
		if failed(outcomes) {
			continue
		}
		for i, s := range look(groups, x.Files()) {
			h[groups[i].Targets[0]] = s
			if settled[i] && !groups[i].Phony {
				spared++
			}
		}
	}
	if spared < 200 {
		t.Errorf("only %d groups were not built again", spared)
	}
}

// W2. A file that nothing needs does not affect what must be built.
func TestOtherFiles(t *testing.T) {
	const more = "\ng : h\n\tcopy h g"
	_, x := fresh(t, api.Sectors, given+" h=1")
	expectBuild(t, x, source+more, "g", "g 0")
	expectBuild(t, x, source+more, "c", "x.o y.o b c 0")
	tests := []struct{ drop, put string }{
		{"", "other=1"},
		{"", "other=2"},
		{"other", ""},
		{"", "h=2"},
		{"", "g=hay"},
		{"g h", ""},
		{"u", "v=1 w="},
		{"", "x=1 y=2 o=3 x.cc=4 x.co=5"},
	}
	for _, test := range tests {
		drop(t, x, test.drop)
		put(t, x, test.put)
		expectPlan(t, x, source+more, "c", "")
		expectBuild(t, x, source+more, "c", "")
	}
	put(t, x, "y.c=1")
	for _, test := range tests {
		put(t, x, test.put)
		expectPlan(t, x, source+more, "c", "y.o b c")
	}
}

// W3. If a group fails, whichever it is, no file is changed.
func TestUnitFailsAsAWhole(t *testing.T) {
	names := strings.Fields("b c d e f")
	for bad := range names {
		var s string
		last := "a"
		for i, name := range names {
			s += name + " : " + last + "\n\tcopy $< $@\n"
			if i == bad {
				s += "\tneed u\n"
			}
			last = name
		}
		const before = "a=1 b=2 c=3 other=4 u=5"
		d, x := fresh(t, 80, before)
		free := room(t, d)
		outcomes, err := x.Build(s, "f", true)
		if got := outcomesShown(outcomes); err != nil || got != "b c d e f 6" {
			t.Error(got, err)
		}
		expectBoth(t, d, x, before, "")
		if got := room(t, d); got != free {
			t.Errorf("room %d, before %d", got, free)
		}
	}
}

// prepared returns a disk and a shop on it in which something was built and
// something must be built, with a log in which some sectors are used.
func prepared(t *testing.T, sectors, used int) (*disk.Disk, *shop.Shop) {
	t.Helper()
	d, x := fresh(t, sectors, given+" other=1")
	expectBuild(t, x, source, "b", "x.o y.o b 0")
	put(t, x, "x.c=q b=hay")
	for range used {
		put(t, x, "other=1")
	}
	return d, x
}

// W3, M4. If the disk fails at any step, all files of a unit are as before, or all
// of them are built, and so are their records.
func TestUnitOnFailingDisk(t *testing.T) {
	for _, sectors := range []int{60, 75, 90} {
		whole := map[bool]int{}
		for used := range 6 {
			for steps, down := 0, true; down; steps++ {
				for _, keep := range keeps() {
					d, x := prepared(t, sectors, used)
					before := shown(x)
					d.Arm(steps)
					outcomes, err := x.Build(source, "all", steps%2 == 0)
					down = d.Down()
					if got := outcomesShown(outcomes); err != nil || got != "x.o b c v w 0" && got != "x.o b c v w 11" || down != failed(outcomes) {
						t.Fatalf("%s, %v", got, err)
					}
					d.Restart(keep)
					whole[expectWhole(t, d, before, !down)]++
				}
			}
		}
		if whole[true] == 0 || whole[false] == 0 {
			t.Errorf("%d sectors: %v", sectors, whole)
		}
	}
}

// expectWhole expects a shop as it was before the goal all was built, or after
// that, and reports whether it was built. It must be if it must.
func expectWhole(t *testing.T, d *disk.Disk, before string, must bool) bool {
	t.Helper()
	const after = "a=xy b=qdc c=zy d=qdc other=1 u=1 v=1 w=11 x.c=q x.o=q y.c=cd y.o=dc"
	const kept = "b c v w x.o y.o"
	x := open(t, d)
	is := shown(x) == after+"; "+kept
	if is {
		expectPlan(t, x, source, "all", "")
		return true
	}
	if got := shown(x); got != before || must {
		t.Fatalf("%s, before %s", got, before)
	}
	expectBuild(t, x, source, "all", "x.o b c v w 0")
	expectBoth(t, d, x, after, kept)
	return false
}

// W3, M4. A put or drop during which the disk fails is done or not, and what was
// built is still there.
func TestPutAndDropOnFailingDisk(t *testing.T) {
	const before = "a=xy b=badc u=1 x.c=ab x.o=ba y.c=cd y.o=dc"
	kept := "; b x.o y.o"
	calls := []struct {
		call  func(x *shop.Shop) error
		after string
	}{
		{func(x *shop.Shop) error { return x.Put(api.File{Name: "a", Text: "q"}) }, strings.Replace(before, "a=xy", "a=q", 1)},
		{func(x *shop.Shop) error { return x.Put(api.File{Name: "z"}) }, before + " z="},
		{func(x *shop.Shop) error { return x.Drop("b") }, strings.Replace(before, "b=badc ", "", 1)},
	}
	for _, c := range calls {
		for steps, down := 0, true; down; steps++ {
			for _, keep := range keeps() {
				// The log is full, so that each call begins with a checkpoint.
				d, x := fresh(t, 60, given)
				expectBuild(t, x, source, "b", "x.o y.o b 0")
				if room(t, d) > 1 {
					t.Fatal(room(t, d))
				}
				d.Arm(steps)
				err := c.call(x)
				down = d.Down()
				if down != (err == api.ErrDown) || !down && err != nil {
					t.Fatal(err)
				}
				d.Restart(keep)
				if got := shown(open(t, d)); got != c.after+kept && (got != before+kept || !down) {
					t.Fatalf("%s, before %s", got, before)
				}
			}
		}
	}
}

package console_test

import (
	"slices"
	"strconv"
	"strings"
	"testing"

	"hammerpond/api"
	"hammerpond/console"
)

// session is the one of the document, a line and its result each.
const session = `put a xy => ok
put x.c ab => ok
put y.c cd => ok
rule # what is made of what => ok
rule OBJ = x.o y.o => ok
rule %.o : %.c => ok
does turn $< $@ => ok
rule b : $(OBJ) => ok
does join $@ $^ => ok
rule c : a => ok
does swap $< $@ x z => ok
rule phony all => ok
rule all : b c => ok
plan all => x.o y.o b c
build all => x.o y.o b c 0
files => a=xy; b=badc; c=zy; x.c=ab; x.o=ba; y.c=cd; y.o=dc
kept => b c x.o y.o
plan all => -
put x.c abc => ok
plan all => x.o b
go all => x.o b 0
files => a=xy; b=cbadc; c=zy; x.c=abc; x.o=cba; y.c=cd; y.o=dc
put b hay => ok
plan all => b
build b => b 0
rule d : a c => ok
does need a => ok
does copy $< $@ => ok
put a => ok
plan d => c d
build d => c d 7
files => a=; b=cbadc; c=zy; x.c=abc; x.o=cba; y.c=cd; y.o=dc
put a q => ok
restart 0 => ok
go d => c d 0
files => a=q; b=cbadc; c=q; d=q; x.c=abc; x.o=cba; y.c=cd; y.o=dc
drop y.c => ok
plan all => -
plan none => error 5
rule e : e => ok
does fail => ok
plan e => error 3
build a => error 3
put Big x => error 3
save => ok
go all => error 3
fly high => error 4`

// step is a line and its result.
type step struct{ line, want string }

// steps returns what a text like session says.
func steps(text string) []step {
	var l []step
	for _, s := range strings.Split(text, "\n") {
		line, want, _ := strings.Cut(s, " => ")
		l = append(l, step{line, want})
	}
	return l
}

func run(t *testing.T, lines []string) []string {
	t.Helper()
	results, err := console.Run(lines)
	if err != nil {
		t.Fatalf("%q: %v", lines, err)
	}
	if len(results) != len(lines) {
		t.Fatalf("%d lines have %d results: %q", len(lines), len(results), results)
	}
	return results
}

// expect runs the lines of steps as one session.
func expect(t *testing.T, l ...step) {
	t.Helper()
	var lines []string
	for _, s := range l {
		lines = append(lines, s.line)
	}
	for i, got := range run(t, lines) {
		if got != l[i].want {
			t.Errorf("line %d, %q: %q, wanted %q", i, l[i].line, got, l[i].want)
		}
	}
}

func lineOf(first string, size int, filler string) string {
	return first + strings.Repeat(filler, size-len(first))
}

// O1.

func TestSessionOfTheDocument(t *testing.T) {
	expect(t, steps(session)...)
}

// What a line yields depends only on the lines before it.
func TestResultsOfABeginning(t *testing.T) {
	l := steps(session)
	for n := range len(l) + 1 {
		expect(t, l[:n]...)
	}
}

func TestMaxLines(t *testing.T) {
	for _, n := range []int{0, 1, api.MaxLines} {
		for _, got := range run(t, slices.Repeat([]string{"files"}, n)) {
			if got != "-" {
				t.Errorf("%d lines: %q", n, got)
			}
		}
	}
	for _, n := range []int{api.MaxLines + 1, 1000} {
		for _, line := range []string{"", "files", strings.Repeat("x", api.MaxLine+1)} {
			results, err := console.Run(slices.Repeat([]string{line}, n))
			if err != api.ErrMany || len(results) != 0 {
				t.Errorf("%d lines: %q, %v", n, results, err)
			}
		}
	}
	if results, err := console.Run(nil); err != nil || len(results) != 0 {
		t.Errorf("no lines: %q, %v", results, err)
	}
}

func TestNewSessionIsEmpty(t *testing.T) {
	for range 2 {
		expect(t, steps(`files => -
kept => -
plan a => error 5
put a 1 => ok
rule b : a => ok
does copy a b => ok
build b => b 0
arm 0 => ok`)...)
	}
}

func TestRuleAndDoes(t *testing.T) {
	expect(t,
		step{"put a xy", "ok"},
		step{"rule ", "ok"},
		step{"rule # a  comment", "ok"},
		step{"rule b : a", "ok"},
		step{"rule ", "ok"},
		step{"does put $@ x  y ", "ok"},
		step{"build b", "b 0"},
		step{"rule \tturn a b", "ok"}, // a command as well
		step{"build b", "b 0"},
		step{"files", "a=xy; b=yx"},
		step{"rule c : b\n\tcopy b c", "ok"}, // two lines of the source
		step{"build c", "c 0"},
		step{"files", "a=xy; b=yx; c=yx"},
	)
}

// Everything after the first space is appended, as it is, and a line feed after it.
func TestRuleWithSpaces(t *testing.T) {
	expect(t, steps(`rule  b  :   => ok
does put b 1 => ok
build b => b 0
does  put b 2 => ok
build b => b 4
files => b=1`)...)
	expect(t, step{"rule b", "ok"}, step{"rule  :", "ok"}, step{"plan b", "error 4"})
	expect(t, step{"rule phony", "ok"}, step{"rule b :", "ok"}, step{"plan b", "error 4"})
	expect(t, step{"does fail", "ok"}, step{"rule b :", "ok"}, step{"plan b", "error 4"})
}

// Without anything after its space, does is an empty command.
func TestDoesOfNothing(t *testing.T) {
	expect(t, steps(`rule b : => ok
plan b => error 3
does  => ok
plan b => b
build b => b 4
does fail => ok
does fail => ok
plan b => b
does  => ok
plan b => error 2`)...)
}

// A description is read when something is planned, not when it is written down.
func TestSourceWithErrors(t *testing.T) {
	expect(t, steps(`put a 1 => ok
rule no rule => ok
plan a => error 4
plan A => error 4
build a => error 4
go a => error 4
files => a=1
clear => ok
plan a => -
plan A => error 3
rule b : $(V) => ok
plan b => error 5
clear => ok
rule V = $(V) => ok
rule b : $(V) => ok
plan b => error 9
clear => ok
rule b : c => ok
does copy c b => ok
rule c : b => ok
does copy b c => ok
plan b => error 8
build c => error 8
go c => error 8
plan a => -`)...)
}

func TestLongSource(t *testing.T) {
	long := lineOf("rule #", api.MaxLine, ".") // 56 bytes of the source
	l := slices.Repeat([]step{{long, "ok"}}, 10)
	l = append(l,
		step{"put a 1", "ok"},
		step{"plan a", "-"},
		step{lineOf("rule #", 44, "."), "ok"}, // 600 bytes
		step{"plan a", "-"},
		step{"rule ", "ok"},
		step{"plan a", "error 2"},
		step{"build a", "error 2"},
	)
	l = append(l, slices.Repeat([]step{{long, "ok"}}, 40)...)
	expect(t, append(l,
		step{"go A", "error 2"},
		step{"clear", "ok"},
		step{"plan a", "-"},
	)...)
}

func TestClear(t *testing.T) {
	expect(t, steps(`clear => ok
rule b : => ok
does put b 1 => ok
build b => b 0
clear => ok
does fail => ok
plan b => error 4
clear => ok
plan b => -
files => b=1
kept => b
rule c : b => ok
does copy b c => ok
build c => c 0
clear => ok
clear => ok
plan c => -`)...)
}

func TestPut(t *testing.T) {
	expect(t,
		step{"put b 2", "ok"},
		step{"put a 1", "ok"},
		step{"files", "a=1; b=2"},
		step{"put a  x  y ", "ok"},
		step{"files", "a= x  y ; b=2"},
		step{"put a", "ok"},
		step{"put b ", "ok"},
		step{"files", "a=; b="},
		step{"put c =; ", "ok"},
		step{"put d \n\t\x00\xff", "ok"},
		step{"put zzzzzzzz " + strings.Repeat("z", 20), "ok"},
		step{"files", "a=; b=; c==; ; d=\n\t\x00\xff; zzzzzzzz=" + strings.Repeat("z", 20)},
	)
}

func TestPutErrors(t *testing.T) {
	expect(t,
		step{"put a 1", "ok"},
		step{"put ", "error 3"},
		step{"put  a", "error 3"},
		step{"put  ", "error 3"},
		step{"put A 1", "error 3"},
		step{"put a/b 1", "error 3"},
		step{"put a\t1", "error 3"},
		step{"put abcdefghi 1", "error 3"},
		step{"put a " + strings.Repeat("z", 21), "error 2"},
		step{"put A " + strings.Repeat("z", 21), "error 3"},
		step{"put", "error 4"},
		step{"files", "a=1"},
	)
}

func TestPutTooMany(t *testing.T) {
	var l []step
	var shown []string
	for i := range api.MaxFiles {
		name := "f" + string(rune('a'+i))
		l = append(l, step{"put " + name + " " + strconv.Itoa(i), "ok"})
		shown = append(shown, name+"="+strconv.Itoa(i))
	}
	all := strings.Join(shown, "; ")
	expect(t, append(l,
		step{"put g 1", "error 10"},
		step{"files", all},
		step{"rule g :", "ok"},
		step{"does put g 1", "ok"},
		step{"build g", "g 10"},
		step{"go g", "g 10"},
		step{"files", all},
		step{"kept", "-"},
		step{"drop fa", "ok"},
		step{"build g", "g 0"},
		step{"put fa 0", "error 10"},
	)...)
}

func TestDrop(t *testing.T) {
	expect(t, steps(`put a 1 => ok
put b 2 => ok
drop c => error 5
drop  => error 5
drop  a => error 5
drop a  => error 5
drop a b => error 5
drop A => error 5
drop => error 4
files => a=1; b=2
drop a => ok
files => b=2
drop a => error 5
drop b => ok
files => -
drop b => error 5`)...)
}

func TestPlan(t *testing.T) {
	expect(t, steps(`put a 1 => ok
plan a => -
plan b => error 5
plan  => error 3
plan  a => error 3
plan a  => error 3
plan a b => error 3
plan A => error 3
plan => error 4
rule b c : a => ok
does copy a b => ok
does copy a c => ok
rule phony p => ok
rule p : c d => ok
rule d : b => ok
does copy b d => ok
rule phony q => ok
rule q : a => ok
plan b => b
plan c => b
plan d => b d
plan p => b d
plan q => -
plan a => -
files => a=1
kept => -
build c => b 0
plan p => d`)...)
}

func TestBuildAndGo(t *testing.T) {
	for _, word := range []string{"build", "go"} {
		expect(t, steps(strings.ReplaceAll(`put a 1 => ok
WORD a => -
WORD b => error 5
WORD  => error 3
WORD  a => error 3
WORD a  => error 3
WORD => error 4
rule b : a => ok
does need a => ok
does copy a b => ok
rule c : b => ok
does copy x c => ok
rule phony p => ok
rule p : a b => ok
WORD c => b c 6
files => a=1
kept => -
WORD p => b 0
WORD p => -
files => a=1; b=1
kept => b
WORD c => c 6
put a => ok
WORD c => b c 7
WORD b => b 7
files => a=; b=1
kept => b`, "WORD", word))...)
	}
}

func TestFilesAndKept(t *testing.T) {
	expect(t, steps(`files => -
kept => -
put z.1 1 => ok
put a => ok
put z 2 => ok
rule %.2 : z => ok
does copy z $@ => ok
build m.2 => m.2 0
build a.2 => a.2 0
build z.2 => z.2 0
files => a=; a.2=2; m.2=2; z=2; z.1=1; z.2=2
kept => a.2 m.2 z.2
drop m.2 => ok
files => a=; a.2=2; z=2; z.1=1; z.2=2
kept => a.2 m.2 z.2`)...)
}

// Several units, of which a goal never has more than one.
func TestTextOfSeveral(t *testing.T) {
	groups := []api.Group{{Targets: []string{"x.o", "x"}}, {Targets: []string{"p"}, Phony: true}, {Targets: []string{"b"}}, {Targets: []string{"c"}}}
	if got := console.UnitsText(groups, [][]int{{0, 1, 2}, {3}}); got != "x.o b; c" {
		t.Errorf("%q", got)
	}
	outcomes := []api.Outcome{{Names: []string{"x.o", "b"}}, {Names: []string{"c"}, Err: api.ErrFail}, {Names: []string{"d"}, Err: api.ErrDown}}
	if got := console.OutcomesText(outcomes); got != "x.o b 0; c 7; d 11" {
		t.Errorf("%q", got)
	}
}

// Only a log of many sectors has room for all that a unit may write.
func TestSizeOfTheDisk(t *testing.T) {
	l := steps(`rule phony p => ok
rule p : i j k => ok
rule phony i => ok
rule i : a c e => ok
rule phony j => ok
rule j : g i m => ok`)
	for _, names := range []string{"a b", "c d", "e f", "g h", "k l", "m n"} {
		first, second, _ := strings.Cut(names, " ")
		l = append(l, step{"rule " + names + " :", "ok"}, step{"does put " + first + " 1", "ok"}, step{"does put " + second + " 2", "ok"})
	}
	expect(t, append(l,
		step{"build p", "a c e g m k 0"},
		step{"kept", "a c e g k m"},
		step{"files", "a=1; b=2; c=1; d=2; e=1; f=2; g=1; h=2; k=1; l=2; m=1; n=2"},
		step{"restart 0", "ok"},
		step{"plan p", "-"},
	)...)
}

// More is written than the log has room for.
func TestManyCommits(t *testing.T) {
	var l []step
	for i := range 76 {
		l = append(l, step{"put a " + strconv.Itoa(i), "ok"})
	}
	expect(t, append(l, step{"files", "a=75"}, step{"restart 0", "ok"}, step{"files", "a=75"})...)
}

func TestSave(t *testing.T) {
	expect(t, steps(`save => ok
files => -
put a 1 => ok
rule b : a => ok
does copy a b => ok
build b => b 0
save => ok
save => ok
restart 0 => ok
files => a=1; b=1
kept => b
plan b => -
put a 2 => ok
restart 7 => ok
plan b => b
build b => b 0
save => ok
files => a=2; b=2`)...)
}

// Everything that was done is durable; the source is not on the disk, and stays.
func TestRestart(t *testing.T) {
	for _, n := range []string{"0", "1", "9", "10", "85", "170", "998", "999"} {
		expect(t, steps(strings.ReplaceAll(`restart N => ok
files => -
put a 1 => ok
put c 2 => ok
rule b : a => ok
does copy a b => ok
restart N => ok
restart N => ok
files => a=1; c=2
plan b => b
build b => b 0
drop c => ok
restart N => ok
files => a=1; b=1
kept => b
plan b => -
put b hay => ok
restart N => ok
plan b => b`, "N", n))...)
	}
}

// O2.

func notNumbers() []string {
	return []string{"", " ", "00", "01", "007", "1000", "9999", "-1", "-0", "+1", " 1", "1 ", "1 2", "0x1", "1_0", "1.0", "1e2", "a", "\t1", "1\n", "٣", "18446744073709551616", "99999999999999999999999999"}
}

// A line with something else than a number is no arm, so that what follows is specified.
func TestNumbers(t *testing.T) {
	for _, word := range []string{"arm", "restart"} {
		l := []step{{word, "error 4"}}
		for _, n := range notNumbers() {
			l = append(l, step{word + " " + n, "error 4"})
		}
		expect(t, append(l, step{"put a 1", "ok"}, step{"save", "ok"}, step{"files", "a=1"})...)
	}
	for n := 0; n <= 999; n += 50 {
		var l []step
		for i := range min(50, 1000-n) {
			l = append(l, step{"restart " + strconv.Itoa(n+i), "ok"})
		}
		expect(t, l...)
		expect(t, step{"restart 999", "ok"}, step{"restart 1000", "error 4"})
	}
}

func TestNoCommands(t *testing.T) {
	l := steps(`put a 1 => ok
rule b : a => ok
does copy a b => ok`)
	words := "|a|fly|fly high|Files|FILES|files |files a| files|file|filess|kept |kept a|save |save 0|clear |clear all|" +
		"rule|does|put|drop|plan|build|go|arm|restart|goes b| rule c : a|rule\tc : a|Put a 2|put\ta|-|ok|error 4|#|# put a 2|" +
		"files\n|files;|files; kept|build\tb|\x00|\xff|=>"
	for _, line := range strings.Split(words, "|") {
		l = append(l, step{line, "error 4"})
	}
	expect(t, append(l,
		step{"files", "a=1"},
		step{"kept", "-"},
		step{"plan b", "b"},
		step{"build b", "b 0"},
	)...)
}

// A line of MaxLine bytes is executed, a longer one is not.
func TestMaxLine(t *testing.T) {
	long, longer := api.MaxLine, api.MaxLine+1
	expect(t,
		step{"put a 1", "ok"},
		step{"rule b : a", "ok"},
		step{lineOf("does copy a b", longer, " "), "error 4"},
		step{"does copy a b", "ok"},
		step{lineOf("rule #", longer, "x"), "error 4"},
		step{lineOf("rule c :", longer, " "), "error 4"},
		step{lineOf("rule #", 1000, "x"), "error 4"},
		step{"plan b", "b"},
		step{"plan c", "error 5"},
		step{lineOf("put a ", longer, "z"), "error 4"},
		step{lineOf("put a ", long, "z"), "error 2"},
		step{lineOf("put ", longer, "z"), "error 4"},
		step{lineOf("put ", long, "z"), "error 3"},
		step{lineOf("drop ", longer, "z"), "error 4"},
		step{lineOf("drop ", long, "z"), "error 5"},
		step{lineOf("plan ", longer, "z"), "error 4"},
		step{lineOf("plan ", long, "z"), "error 3"},
		step{lineOf("build ", longer, "z"), "error 4"},
		step{lineOf("build ", long, "z"), "error 3"},
		step{lineOf("go ", longer, "z"), "error 4"},
		step{lineOf("go ", long, "z"), "error 3"},
		step{lineOf("arm ", longer, "0"), "error 4"},
		step{lineOf("", longer, "x"), "error 4"},
		step{lineOf("rule c :", long, " "), "ok"},
		step{"does put c 1", "ok"},
		step{"build c", "c 0"},
		step{"files", "a=1; c=1"},
	)
}

// An error is printed, and the session goes on with everything as it was.
func TestErrorsChangeNothing(t *testing.T) {
	var l []step
	for i, s := range steps(session) {
		l = append(l, s)
		switch i % 3 {
		case 0:
			l = append(l, step{"put A 1", "error 3"})
		case 1:
			l = append(l, step{"drop zz", "error 5"})
		}
	}
	expect(t, l...)
}

// From the first arm on, only the number of the results is specified; those of the
// lines before it are what they are without it.
func TestEachLineAfterArmHasAResult(t *testing.T) {
	all := steps(session)
	var lines, want []string
	for _, s := range all {
		lines, want = append(lines, s.line), append(want, s.want)
	}
	for at := range len(lines) + 1 {
		for _, n := range []string{"0", "1", "2", "3", "5", "8", "13", "40", "999"} {
			for _, end := range []string{"restart 0", "restart 999", "restart 5", "arm 1", "save"} {
				armed := slices.Concat(lines[:at], []string{"arm " + n}, lines[at:], []string{end}, lines[13:28])
				if got := run(t, armed); !slices.Equal(got[:at], want[:at]) || slices.Contains(got, "") {
					t.Fatalf("arm %s after %d lines: %q", n, at, got)
				}
			}
		}
	}
}

// These results are not specified, but that the disk fails, and then no longer
// does, is what the commands are for.
func TestArm(t *testing.T) {
	expect(t, steps(`put a 1 => ok
rule b : a => ok
does copy a b => ok
arm 0 => ok
put a 2 => error 11
drop a => error 11
save => error 11
build b => b 11
go b => b 11
plan b => b
files => a=1
restart 0 => ok
files => a=1
put a 2 => ok
arm 999 => ok
build b => b 0
files => a=2; b=2
restart 0 => ok
files => a=2; b=2
kept => b`)...)
}

// Whenever the disk fails during a build, all of it is there after the restart, or
// nothing. That all of it is there although the build had an error depends on the
// writes that restart keeps.
func TestBuildOnAFailingDisk(t *testing.T) {
	before := steps(`put a xy => ok
rule b : a => ok
does turn a b => ok
rule c d : b => ok
does copy b c => ok
does join d b b => ok`)
	var lines []string
	for _, s := range before {
		lines = append(lines, s.line)
	}
	nothing, all, late := 0, 0, 0
	for n := range 20 {
		for _, keep := range []string{"0", "1", "2", "5", "10", "341", "682", "999"} {
			results := run(t, slices.Concat(lines, []string{"arm " + strconv.Itoa(n), "build d", "restart " + keep, "files", "kept", "build d", "files"}))
			switch got := strings.Join(results[len(lines)+1:], ", "); got {
			case "b c 11, ok, a=xy, -, b c 0, a=xy; b=yx; c=yx; d=yxyx":
				nothing++
			case "b c 0, ok, a=xy; b=yx; c=yx; d=yxyx, b c, -, a=xy; b=yx; c=yx; d=yxyx":
				all++
			case "b c 11, ok, a=xy; b=yx; c=yx; d=yxyx, b c, -, a=xy; b=yx; c=yx; d=yxyx":
				late++
			default:
				t.Errorf("arm %d, restart %s: %s", n, keep, got)
			}
		}
	}
	if nothing == 0 || all == 0 || late == 0 {
		t.Error(nothing, all, late)
	}
}

// Z1 and Z2.

// chance returns a function that returns numbers less than n which look random,
// and are the same for the same seed.
func chance(seed uint32) func(n int) int {
	return func(n int) int {
		seed = seed*1664525 + 1013904223
		return int(seed>>16) % n
	}
}

// someLines returns lines that are, for the most part, commands.
func someLines(next func(int) int) []string {
	words := strings.Split("rule |does |clear|put |drop |plan |build |go |files|kept|save|arm |restart | |fly ", "|")
	rests := strings.Split("|a|b|c|b : a|c : b a|%.o : %.c|b : b|phony c|x.c ab|x.o|a xy|V = a|$(V) : a|copy a b|turn $< $@|join $@ $^|put $@ 1|fail|need a|0|1|7|999|1000|\x00\xff| ", "|")
	var lines []string
	for range next(api.MaxLines + 1) {
		lines = append(lines, words[next(len(words))]+rests[next(len(rests))])
	}
	return lines
}

func TestAllLinesHaveResults(t *testing.T) {
	next := chance(6)
	for range 400 {
		lines := someLines(next)
		before := slices.Clone(lines)
		first := run(t, lines)
		if !slices.Equal(lines, before) {
			t.Fatal("the lines were changed")
		}
		if second := run(t, lines); !slices.Equal(first, second) {
			t.Fatalf("%q: %q, and then %q", lines, first, second)
		}
		if slices.Contains(first, "") {
			t.Fatalf("%q: %q", lines, first)
		}
	}
}

// What follows the list in memory is not read, and stays.
func TestLinesAreNotKept(t *testing.T) {
	memory := []string{"put a 1", "files", "drop a"}
	lines := memory[:2]
	first := run(t, lines)
	clear(lines)
	if !slices.Equal(first, []string{"ok", "a=1"}) || memory[2] != "drop a" {
		t.Errorf("%q, %q", first, memory)
	}
	first[0] = ""
	expect(t, step{"put a 1", "ok"}, step{"files", "a=1"})
}

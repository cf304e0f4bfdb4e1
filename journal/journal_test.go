package journal_test

import (
	"fmt"
	"slices"
	"strings"
	"testing"

	"runnel/api"
	"runnel/engine"
	"runnel/fault"
	"runnel/journal"
)

// keeps holds a session against what is kept of it, told by hand.
func keeps(t *testing.T, name string, l []api.Cmd, want ...api.Cmd) {
	t.Helper()
	hold(t, name, l)
	if bad := difference(journal.Keep(l), want); bad != "" {
		t.Fatalf("%s: Keep: %s", name, bad)
	}
}

// tidies holds a session against what is left of it at since, told by hand.
func tidies(t *testing.T, name string, l []api.Cmd, since []api.Time, want ...api.Cmd) {
	t.Helper()
	hold(t, name, l, since)
	got, e := journal.Tidy(l, since)
	if bad := difference(got, want); e != api.OK || bad != "" {
		t.Fatalf("%s: Tidy at %v: error %d: %s", name, since, int(e), bad)
	}
}

// refuses holds a session that is not tidied at since.
func refuses(t *testing.T, name string, l []api.Cmd, want api.Errno, since ...api.Time) {
	t.Helper()
	hold(t, name, l, since)
	if got, e := journal.Tidy(l, since); e != want || got != nil {
		t.Fatalf("%s: Tidy at %s: %s, error %d, want %d", name, brief(since), brief(got), int(e), int(want))
	}
}

// fronts holds a session against the frontiers of its inputs, told by hand: a number, and its frontier.
func fronts(t *testing.T, name string, l []api.Cmd, want map[int][]api.Time) {
	t.Helper()
	hold(t, name, l)
	got, e := journal.Fronts(l)
	if e != api.OK || len(got) != len(want) {
		t.Fatalf("%s: Fronts: %v, error %d, want %v", name, got, int(e), want)
	}
	for at, f := range want {
		if one, is := got[at]; !is || !slices.Equal(one, f) {
			t.Fatalf("%s: Fronts: %v, want %v", name, got, want)
		}
	}
}

var zero = pair(0, 0)

func TestThePage(t *testing.T) { // P33.3: the page's example
	p := planOf(1, input(text))
	l := cmds(install(p), insert(0, up(r("a"), 0, 0, 1)), insert(0, up(r("a"), 1, 0, -1)), insert(0, up(r("b"), 1, 0, 1)), advance(0, pair(2, 0)))
	tidies(t, "the page", l, times(pair(1, 0)), install(p), insert(0, up(r("b"), 1, 0, 1)), advance(0, pair(2, 0)))
	tidies(t, "the page, told apart", l, times(zero), l[0], l[1], l[2], l[3], l[4])
	keeps(t, "the page", l, l...)
	fronts(t, "the page", l, map[int][]api.Time{0: times(pair(2, 0))})
}

func TestNoInstall(t *testing.T) { // P33.1 to P33.3: no command, and such as are all refused: ErrNone ahead of all else
	bad := api.Cmd{Do: api.CmdInstall, Sheet: []byte{80}}
	round := api.Cmd{Do: api.CmdInstall, Sheet: bytesOf(planOf(1, negate(0)))}
	for name, l := range map[string][]api.Cmd{
		"nothing": nil, "no command": {}, "no plan": cmds(bad, round, api.Cmd{}), "ahead of a plan": cmds(insert(0, up(r(1), 0, 0, 1)), advance(0), compact(0), step(0, 1), peek(0, zero), poll(0)),
		"none that there are": cmds(api.Cmd{Do: -1}, api.Cmd{Do: api.Cmds, Sheet: bytesOf(planOf(1, input()))}),
	} {
		keeps(t, name, l)
		for _, since := range [][]api.Time{times(zero), nil, times(pair(-1, 0)), times(pair(1, 1), pair(1, 1)), stairs(1025), times(pair(9, 9))} {
			refuses(t, name, l, api.ErrNone, since...)
		}
		if f, e := journal.Fronts(l); e != api.ErrNone || f != nil {
			t.Errorf("%s: Fronts: %v, error %d", name, f, int(e))
		}
		if g, e := journal.Restore(l); e != api.ErrNone || g != nil {
			t.Errorf("%s: Restore: error %d", name, int(e))
		}
	}
}

func TestInstalls(t *testing.T) { // P33.1: alone; with commands ahead of it; with others behind it; behind some that are refused
	p, other := planOf(3, input(num), arrange(0, 1)), planOf(1, input(text))
	row, behind := insert(0, up(r(1), 0, 0, 1)), insert(0, up(r("a"), 0, 0, 1))
	keeps(t, "alone", cmds(install(p)), install(p))
	fronts(t, "alone", cmds(install(p)), map[int][]api.Time{0: times(zero)})
	tidies(t, "alone", cmds(install(p)), times(zero), install(p))
	keeps(t, "others ahead", cmds(row, advance(0, pair(1, 0)), compact(1, pair(1, 0)), step(0, 1), install(p), row), install(p), row)
	fronts(t, "others ahead", cmds(advance(0, pair(1, 0)), install(p)), map[int][]api.Time{0: times(zero)})
	keeps(t, "the same again", cmds(install(p), row, install(p), row), install(p), row, row)
	keeps(t, "another one behind", cmds(install(p), install(other), behind, row), install(p), row)
	keeps(t, "refused ones ahead", cmds(api.Cmd{}, api.Cmd{Sheet: []byte{80}}, install(planOf(0, input(num))), install(planOf(1, negate(0))), row, install(other), behind, install(p), row), install(other), behind)
	tidies(t, "refused ones ahead", cmds(api.Cmd{}, install(planOf(0, input(num))), row, install(other), behind, install(p), row), times(zero), install(other), behind)
	long := install(p)
	long.Sheet = append(long.Sheet, make([]byte, api.MaxSheet)...)
	keeps(t, "a plan, and more behind it", cmds(long, install(other)), install(other))
}

func TestLongSheets(t *testing.T) { // P33.1: an engine does not ask how long a plan's bytes are: nor is it asked here
	var exprs [][]api.Term
	for range 10 {
		exprs = append(exprs, many(1, api.Term{Op: api.OpStr, Str: strings.Repeat("x", api.MaxText)}))
	}
	p := planOf(1, input(num), mapped(0, exprs...), mapped(0, exprs...), concat(1, 2))
	l := cmds(install(p), insert(0, up(r(1), 0, 0, 1)))
	if len(l[0].Sheet) <= api.MaxSheet {
		t.Fatalf("only %d bytes", len(l[0].Sheet))
	}
	keeps(t, "long", l, l...)
	tidies(t, "long", l, times(zero), l...)
}

func TestOthersAreNotKept(t *testing.T) { // P33.1: steps, peeks, polls, those that would fail among them, and commands that there are not
	p := planOf(3, input(num), arrange(0, 1))
	row := insert(0, up(r(1), 0, 0, 1))
	l := cmds(install(p), step(0, 1), row, step(1, 9), peek(1, zero), poll(0), advance(0, pair(1, 0)), peek(1, zero), step(9, 1), step(0, -1), poll(9), peek(0, zero), api.Cmd{Do: -1}, api.Cmd{Do: api.Cmds}, row, api.Cmd{Do: low}, api.Cmd{Do: high})
	keeps(t, "others", l, install(p), row, advance(0, pair(1, 0)))
	for do := -3; do < api.Cmds+3; do++ {
		one := api.Cmd{Do: do, Up: up(r(1), 0, 0, 1), Front: times(pair(1, 0)), Fuel: 1, Sheet: bytesOf(p)}
		want := 1
		if do == api.CmdInsert || do == api.CmdAdvance {
			want = 2
		}
		if got := journal.Keep(cmds(install(p), one)); len(got) != want {
			t.Errorf("of %d %s is kept", do, brief(got))
		}
	}
}

func TestInsertsAndFrontiers(t *testing.T) { // P33.1: an insert is kept in advance of its input's frontier, not just ahead of it
	p := planOf(3, input(num), arrange(0, 1))
	one := func(epoch, round int) api.Cmd { return insert(0, up(r(1), epoch, round, 1)) }
	head := cmds(install(p), one(0, 0), advance(0, pair(1, 5), pair(3, 2)))
	l := and(head, one(1, 5), one(3, 2), one(2, 5), one(9, 9), one(3, 3), one(0, 5), one(1, 4), one(3, 1), one(2, 4), one(0, 99), one(99, 0), one(99, 1))
	keeps(t, "in advance", l, and(head, one(1, 5), one(3, 2), one(2, 5), one(9, 9), one(3, 3))...)
	keeps(t, "closed", and(head, advance(0), one(9, 9), one(api.MaxTime, api.MaxTime)), and(head, advance(0))...)
	wide := and(head, one(api.MaxTime, api.MaxTime), one(api.MaxTime+1, 9), one(9, api.MaxTime+1))
	keeps(t, "the last time", wide, wide[:4]...)
}

func TestAdvances(t *testing.T) { // P33.1, P33.2: to the same frontier, to several times, to none, to 16 and 17, back
	p := planOf(3, input(num), arrange(0, 1))
	l := cmds(install(p), advance(0, zero), advance(0, zero))
	keeps(t, "the first one", l, l...)
	fronts(t, "the first one", l, map[int][]api.Time{0: times(zero)})
	tidies(t, "the first one", l, times(zero), install(p))
	l = cmds(install(p), advance(0, pair(0, 2), pair(2, 0)), advance(0, pair(0, 2), pair(2, 0)))
	keeps(t, "several times", l, l...)
	fronts(t, "several times", l, map[int][]api.Time{0: times(pair(0, 2), pair(2, 0))})
	tidies(t, "several times", l, times(zero), install(p), l[1])
	keeps(t, "back", and(l, advance(0, zero), advance(0, pair(0, 2)), advance(0, pair(1, 1)), advance(0, pair(2, 0))), and(l, advance(0, pair(0, 2)))...)
	l = cmds(install(p), advance(0, stairs(16)...))
	keeps(t, "16 times", l, l...)
	fronts(t, "16 times", l, map[int][]api.Time{0: stairs(16)})
	tidies(t, "16 times", l, stairs(16), l...)
	keeps(t, "17 times", cmds(install(p), advance(0, stairs(17)...)), install(p))
	fronts(t, "17 times", cmds(install(p), advance(0, stairs(17)...)), map[int][]api.Time{0: times(zero)})
	l = cmds(install(p), advance(0))
	keeps(t, "none", and(l, advance(0), advance(0, pair(9, 9))), and(l, advance(0))...)
	fronts(t, "none", l, map[int][]api.Time{0: nil})
	tidies(t, "none", and(l, advance(0)), times(pair(7, 7)), install(p), advance(0))
	keeps(t, "no frontiers", cmds(install(p), advance(0, pair(1, 1), pair(1, 1)), advance(0, pair(2, 0), pair(0, 2)), advance(0, pair(-1, 0)), advance(0, pair(0, api.MaxTime+1)), advance(1, pair(1, 0)), advance(2), advance(-1)), install(p))
}

func TestCompacts(t *testing.T) { // P33.1, P33.3: never, once, twice, to the same, to what is refused, to the frontier of (0, 0), to none
	p := planOf(3, input(num), arrange(0, 1), arrange(0, 0))
	begin := install(p)
	for name, l := range map[string][]api.Cmd{
		"never": nil, "once": cmds(compact(1, pair(1, 2))), "to the first one": cmds(compact(2, zero)), "to none": cmds(compact(1)), "to 16 times": cmds(compact(1, stairs(16)...)),
	} {
		keeps(t, name, and(cmds(begin), l...), and(cmds(begin), l...)...)
		tidies(t, name, and(cmds(begin), l...), times(zero), and(cmds(begin), l...)...)
	}
	twice := cmds(begin, compact(2, pair(5, 5)), compact(1, pair(1, 2)), compact(1, pair(1, 2)), compact(1, pair(2, 2), pair(1, 3)))
	keeps(t, "no order", twice, twice[:4]...)
	twice = cmds(begin, compact(2, pair(5, 5)), compact(1, pair(1, 2)), compact(1, pair(1, 2)), compact(1, pair(1, 3), pair(2, 2)))
	l := and(twice, compact(1, zero), compact(1, pair(0, 9)), compact(1, stairs(17)...), compact(0, pair(9, 9)), compact(3), compact(-1), compact(1, pair(9, 9), pair(9, 9)))
	keeps(t, "twice, and refused", l, twice...)
	tidies(t, "twice, and refused", l, times(zero), begin, compact(1, pair(1, 3), pair(2, 2)), compact(2, pair(5, 5)))
	tidies(t, "to the same", twice[:4], times(zero), begin, compact(1, pair(1, 2)), compact(2, pair(5, 5)))
	closed := cmds(begin, compact(1, pair(3, 3)), compact(1), compact(1))
	keeps(t, "behind none", and(closed, compact(1, pair(9, 9)), compact(1, zero)), closed...)
	tidies(t, "behind none", closed, times(zero), begin, compact(1))
}

func TestCompactsOfWhatIsBehindCommands(t *testing.T) { // P33.1: an arrangement may be compacted beyond its frontier, and inserts come yet
	p := planOf(3, input(num), arrange(0, 1))
	l := cmds(install(p), compact(1, pair(9, 9)), insert(0, up(r(1), 0, 0, 1)), insert(0, up(r(1), 3, 0, 1)))
	keeps(t, "beyond", l, l...)
	tidies(t, "beyond", l, times(zero), l[0], l[2], l[3], l[1])
}

func TestFieldsOfNoUse(t *testing.T) { // P33.1: what a command does not use plays no part, and is not told
	for i := range 60 {
		x := chance(i)
		s := draw(&x, fmt.Sprint("session ", i), drawPlan(&x, 1+i%3, 7), 40)
		plain := journal.Keep(s.cmds)
		var full []api.Cmd
		for _, c := range s.cmds {
			full = append(full, filled(&x, c))
		}
		hold(t, s.name, full, times(zero))
		if bad := difference(journal.Keep(full), plain); bad != "" {
			t.Fatalf("%s: %s", s.name, bad)
		}
	}
	p := planOf(3, input(num, text), arrange(0, 1))
	odd := func(n int, s string) api.Row {
		return api.Row{{Kind: num, Int: n, Str: strings.Repeat("y", n*9000)}, {Kind: text, Str: s, Int: n}}
	}
	l := cmds(install(p), insert(0, up(odd(1, "a"), 0, 0, 1)), insert(0, up(odd(0, "a"), 0, 0, 1)), insert(0, up(r(1, "a"), 0, 0, 2)), insert(0, up(r(0, api.Val{Kind: text, Str: "a", Int: 77}), 0, 0, -1)))
	keeps(t, "values", l, install(p), insert(0, up(r(1, "a"), 0, 0, 1)), insert(0, up(r(0, "a"), 0, 0, 1)), insert(0, up(r(1, "a"), 0, 0, 2)), insert(0, up(r(0, "a"), 0, 0, -1)))
	tidies(t, "values", l, times(zero), install(p), insert(0, up(r(1, "a"), 0, 0, 3)))
}

func TestWidePlans(t *testing.T) { // P33.1 to P33.3: inputs whose numbers are not the first ones, behind what they lead to; by rising numbers
	p := wide()
	a, b, c := up(r(1, "a"), 0, 0, 1), up(r(1, 5), 1, 0, 2), up(nil, 0, 1, 3)
	l := cmds(install(p),
		compact(8, pair(1, 0)), insert(7, b), advance(7, pair(0, 1)), insert(6, c), compact(2), insert(4, b), insert(1, a), insert(4, a), insert(0, b), insert(2, b), advance(6, pair(1, 1)),
		advance(0, pair(1, 0)), compact(1, pair(1, 0)), compact(5, zero), advance(1), insert(1, a), insert(6, c), insert(4, b), compact(8, pair(2, 0)), insert(10, b))
	keeps(t, "wide", l, install(p), compact(8, pair(1, 0)), insert(7, b), advance(7, pair(0, 1)), insert(6, c), compact(2), insert(4, b), insert(1, a), advance(6, pair(1, 1)), compact(5, zero), advance(1), insert(4, b), compact(8, pair(2, 0)))
	fronts(t, "wide", l, map[int][]api.Time{1: nil, 4: times(zero), 6: times(pair(1, 1)), 7: times(pair(0, 1))})
	tidies(t, "wide", l, times(zero), install(p), insert(1, a), insert(4, up(r(1, 5), 1, 0, 4)), insert(6, c), insert(7, b), advance(1), advance(6, pair(1, 1)), advance(7, pair(0, 1)), compact(2), compact(5, zero), compact(8, pair(2, 0)))
	fronts(t, "wide, installed", l[:1], map[int][]api.Time{1: times(zero), 4: times(zero), 6: times(zero), 7: times(zero)})
}

func TestManyInputs(t *testing.T) { // P33.2, P33.3: 64 of them, 10 behind 9, not behind 1
	var nodes []api.Node
	var l, inserts, advances []api.Cmd
	want := map[int][]api.Time{}
	for at := range api.MaxNodes {
		nodes = append(nodes, input(num))
		want[at] = times(pair(at, 1))
		inserts, advances = append(inserts, insert(at, up(r(at%3), 70, 1, 1))), append(advances, advance(at, pair(at, 1)))
	}
	p := planOf(1, nodes...)
	l = cmds(install(p))
	for at := range api.MaxNodes {
		other := (at*37 + 5) % api.MaxNodes
		l = append(l, advances[other], inserts[other])
	}
	fronts(t, "64 inputs", l, want)
	tidies(t, "64 inputs", l, times(zero), slices.Concat(l[:1], inserts, advances)...)
}

func TestManyArrangements(t *testing.T) { // P33.3: by rising numbers
	nodes := []api.Node{input(num)}
	var compacts []api.Cmd
	for at := 1; at < api.MaxNodes; at++ {
		nodes = append(nodes, arrange(0, 1))
		compacts = append(compacts, compact(at, pair(at, at)))
	}
	p := planOf(1, nodes...)
	l := cmds(install(p))
	for i := range compacts {
		l = append(l, compacts[(i*37+5)%len(compacts)])
	}
	tidies(t, "63 arrangements", l, times(zero), and(cmds(install(p)), compacts...)...)
}

func TestNothingLeft(t *testing.T) { // P33.3: an input into which nothing came, changes that are nothing together, at one time, and only behind since
	p := planOf(3, input(num), input(num), concat(0, 1), arrange(2, 1))
	l := cmds(install(p), insert(0, up(r(1), 0, 0, 2)), insert(0, up(r(1), 0, 0, -2)), insert(0, up(r(2), 0, 1, 1)), insert(0, up(r(2), 1, 0, -1)), advance(0, pair(3, 3)), advance(1, pair(2, 2)))
	tidies(t, "at one time", l, times(zero), l[0], l[3], l[4], l[5], l[6])
	tidies(t, "at one time, of two times", l, times(pair(0, 1), pair(1, 0)), l[0], l[3], l[4], l[5], l[6])
	tidies(t, "behind since", l, times(pair(1, 1)), l[0], l[5], l[6])
	tidies(t, "at (0, 1) and on", l, times(pair(0, 1)), l[0], insert(0, up(r(2), 0, 1, 1)), insert(0, up(r(2), 1, 1, -1)), l[5], l[6])
	keeps(t, "a difference of 0", and(l[:2], insert(0, up(r(1), 0, 0, 0))), l[:2]...)
	both := cmds(install(p), insert(1, up(r(1), 0, 0, 2)), insert(0, up(r(1), 0, 0, -2)), insert(1, up(r(1), 0, 0, 5)))
	tidies(t, "the same row at two inputs", both, times(zero), install(p), insert(0, up(r(1), 0, 0, -2)), insert(1, up(r(1), 0, 0, 7)))
}

func TestOneTime(t *testing.T) { // P33.3: times that since makes one; in the order of rows, then of times
	p := planOf(3, input(num))
	l := cmds(install(p),
		insert(0, up(r(9), 0, 0, 1)), insert(0, up(r(1), 4, 4, 1)), insert(0, up(r(9), 2, 3, 2)), insert(0, up(r(1), 3, 5, 1)), insert(0, up(r(9), 3, 3, 4)), insert(0, up(r(-1), 5, 0, 8)), insert(0, up(r(9), 4, 3, 16)), insert(0, up(r(9), 0, 9, 32)),
		advance(0, pair(3, 3)))
	tidies(t, "one", l, times(pair(3, 3)), install(p),
		insert(0, up(r(-1), 5, 3, 8)), insert(0, up(r(1), 3, 5, 1)), insert(0, up(r(1), 4, 4, 1)), insert(0, up(r(9), 3, 3, 7)), insert(0, up(r(9), 3, 9, 32)), insert(0, up(r(9), 4, 3, 16)), advance(0, pair(3, 3)))
	tidies(t, "two times", l, times(pair(0, 3), pair(3, 0)), install(p),
		insert(0, up(r(-1), 5, 0, 8)), insert(0, up(r(1), 3, 5, 1)), insert(0, up(r(1), 4, 4, 1)), insert(0, up(r(9), 0, 0, 1)), insert(0, up(r(9), 0, 9, 32)), insert(0, up(r(9), 2, 3, 2)), insert(0, up(r(9), 3, 3, 4)), insert(0, up(r(9), 4, 3, 16)), advance(0, pair(3, 3)))
}

func TestSinces(t *testing.T) { // P33.3: the first frontier, the inputs' own, just beyond one's, of several times; another input's is empty
	p := planOf(3, input(num), input(num), concat(0, 1))
	head := cmds(install(p), insert(0, up(r(1), 0, 0, 1)), insert(1, up(r(1), 1, 0, 1)))
	l := and(head, advance(0, pair(2, 4)), advance(1, pair(3, 1)))
	tidies(t, "the meet", l, times(pair(2, 1)), install(p), insert(0, up(r(1), 2, 1, 1)), insert(1, up(r(1), 2, 1, 1)), l[3], l[4])
	tidies(t, "both", l, times(pair(2, 4), pair(3, 1)), install(p), insert(0, up(r(1), 2, 1, 1)), insert(1, up(r(1), 2, 1, 1)), l[3], l[4])
	tidies(t, "three times", l, times(pair(0, 9), pair(2, 4), pair(3, 1)), install(p), insert(0, up(r(1), 0, 1, 1)), insert(1, up(r(1), 1, 1, 1)), l[3], l[4])
	for _, since := range [][]api.Time{times(pair(2, 4)), times(pair(3, 1)), times(pair(2, 2)), times(pair(3, 0)), times(pair(2, 5), pair(3, 1)), times(pair(2, 4), pair(4, 1)), times(pair(2, 4), pair(3, 2)), times(pair(9, 9))} {
		refuses(t, "beyond one", l, api.ErrTime, since...)
	}
	closed := and(l, advance(0))
	tidies(t, "the other is closed", closed, times(pair(3, 1)), install(p), insert(0, up(r(1), 3, 1, 1)), insert(1, up(r(1), 3, 1, 1)), advance(0), l[4])
	refuses(t, "the other is closed", closed, api.ErrTime, pair(2, 2))
	refuses(t, "the other is closed", closed, api.ErrTime, pair(4, 1))
	last := pair(api.MaxTime, api.MaxTime)
	tidies(t, "all are closed", and(closed, advance(1)), times(last), install(p), insert(0, up(r(1), last.Epoch, last.Round, 1)), insert(1, up(r(1), last.Epoch, last.Round, 1)), advance(0), advance(1))
	tidies(t, "not advanced", head, times(zero), head...)
	refuses(t, "not advanced", head, api.ErrTime, pair(0, 1))
	refuses(t, "not advanced", head, api.ErrTime, pair(0, 1), pair(1, 0))
	tidies(t, "1024 times", and(head, advance(0), advance(1)), stairs(1024), install(p), insert(0, up(r(1), 0, 0, 1)), insert(1, up(r(1), 1, 0, 1)), advance(0), advance(1))
}

func TestRestored(t *testing.T) { // P33.2: an engine that has done what is kept, and no more: it has not failed, and goes on
	p := outsAre(planOf(9, input(num), mapped(0, of(api.OpNeg, col(0))), arrange(0, 1)), 1, 0, 2)
	l := cmds(install(p), insert(0, up(r(5), 0, 0, 1)), step(1, 1), insert(0, up(r(low), 0, 1, 1)), step(1, 5), insert(0, up(r(7), 1, 0, 1)), advance(0, pair(2, 0)), compact(2, pair(1, 0)), step(2, 9))
	session := engine.New()
	for _, c := range l {
		session.Do(c)
	}
	if fault.Code(session.Failed()) != api.ErrFailed {
		t.Fatal("the session did not fail")
	}
	keeps(t, "a failure in a turn", l, l[0], l[1], l[3], l[5], l[6], l[7])
	g, e := journal.Restore(l)
	if e != api.OK || g.Failed() != nil {
		t.Fatalf("error %d, %v", int(e), g.Failed())
	}
	if waiting, stored := g.Flow().Load(); waiting != 6 || stored != 0 {
		t.Errorf("%d wait, %d are stored", waiting, stored)
	}
	if got, err := g.Do(step(2, 9)); err != nil {
		t.Error(got, err)
	}
	if got, err := g.Do(peek(2, pair(1, 1))); err != nil || !sameCounts(got.Counts, []api.Count{{Row: r(low), Diff: 1}, {Row: r(5), Diff: 1}, {Row: r(7), Diff: 1}}) {
		t.Error(got, err)
	}
	if got, err := g.Do(peek(2, pair(0, 1))); fault.Code(err) != api.ErrCompacted {
		t.Error(got, err)
	}
	if _, err := g.Do(insert(0, up(r(7), 1, 0, 1))); fault.Code(err) != api.ErrTime {
		t.Error(err)
	}
	if _, err := g.Do(insert(0, up(r(8), 2, 0, 1))); err != nil {
		t.Error(err)
	}
	if got, err := g.Do(poll(1)); err != nil || len(got.Ups) != 4 || !slices.Equal(got.Front, times(pair(2, 0))) {
		t.Error(got, err)
	}
}

func TestDrawnSessions(t *testing.T) { // P33.1 to P33.3: commands of all kinds mixed, such as are refused among them, over plans of one input and of several
	kinds, done, refused, shorter, apart := make([]int, api.Nodes), make([]int, api.Cmds), 0, 0, 0
	for i := range 500 {
		x := chance(1000 + i)
		s := draw(&x, fmt.Sprintf("session %d", i), drawPlan(&x, 1+i%4, 4+x.below(8)), 20+x.below(80))
		f, _ := journal.Fronts(s.cmds)
		sinces := [][]api.Time{times(zero), drawSince(&x, f), drawSince(&x, f), drawSince(&x, f), times(pair(x.below(4), x.below(4)))}
		was := hold(t, s.name, s.cmds, sinces...)
		refused += was.refused
		for _, c := range was.kept {
			done[c.Do]++
		}
		for _, n := range s.p.Nodes {
			kinds[n.Kind]++
		}
		for _, since := range sinces[1:4] {
			l, e := journal.Tidy(s.cmds, since)
			if e != api.OK {
				t.Fatalf("%s: Tidy at %v: error %d", s.name, since, int(e))
			}
			if inserts(l) < inserts(was.kept) {
				shorter++
			}
			if len(since) > 1 {
				apart++
			}
		}
	}
	if slices.Min(kinds) < 50 || done[api.CmdInsert] < 4000 || done[api.CmdAdvance] < 800 || done[api.CmdCompact] < 500 || refused < 2000 || shorter < 500 || apart < 150 {
		t.Errorf("kinds %v, done %v, %d refused, %d shorter, %d of several times", kinds, done, refused, shorter, apart)
	}
}

func TestBeginnings(t *testing.T) { // P33.1 to P33.3: behind each of a session's commands
	for i := range 40 {
		x := chance(2000 + i)
		s := draw(&x, fmt.Sprintf("session %d", i), drawPlan(&x, 1+i%4, 6), 50)
		for many := range len(s.cmds) + 1 {
			hold(t, fmt.Sprintf("%s, %d commands", s.name, many), s.cmds[:many], times(zero), times(pair(1, 1)))
		}
	}
}

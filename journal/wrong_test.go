package journal_test

import (
	"fmt"
	"slices"
	"strings"
	"testing"

	"runnel/api"
	"runnel/journal"
)

// busy is a session of the wide plan, in which something came to each input and was compacted.
func busy() []api.Cmd {
	l := cmds(install(wide()))
	for i := range 4 {
		l = append(l, insert(1, up(r(i%2, "a"), i, 1, 1)), insert(4, up(r(i%2, i), 1, i, 2)), insert(6, up(nil, i, i, 1)), insert(7, up(r(0, 0), i, 0, -1)))
	}
	return append(l, advance(1, pair(1, 3), pair(3, 2)), advance(4, pair(0, 4), pair(2, 1)), advance(7, pair(2, 0)), compact(2, pair(0, 2), pair(1, 1)), compact(8, pair(1, 1)))
}

// notKept holds commands that are refused, ahead of the busy ones' last and behind it, and at the end: they play no part.
func notKept(t *testing.T, name string, l ...api.Cmd) {
	t.Helper()
	all := busy()
	for _, at := range []int{1, len(all) - 1, len(all)} {
		keeps(t, fmt.Sprintf("%s, at %d", name, at), slices.Concat(all[:at], l, all[at:]), all...)
	}
}

func TestNoSuchCommands(t *testing.T) { // P33.1: commands that there are not
	for _, do := range noNumbers(api.Cmds) {
		notKept(t, fmt.Sprint("command ", do), api.Cmd{Do: do}, api.Cmd{Do: do, Node: 1, Up: up(r(1, "a"), 9, 9, 1), Front: times(pair(9, 9)), Fuel: 1, Sheet: bytesOf(wide())})
	}
}

func TestNoSuchNodes(t *testing.T) { // P33.1: nodes that there are not, that are no input, that are no arrangement
	for _, at := range noNumbers(len(wide().Nodes)) {
		notKept(t, fmt.Sprint("node ", at), insert(at, up(r(1, "a"), 9, 9, 1)), advance(at, pair(9, 9)), advance(at), compact(at, pair(9, 9)), compact(at))
	}
	for at, n := range wide().Nodes {
		if n.Kind != api.NodeInput {
			notKept(t, fmt.Sprint("no input ", at), insert(at, up(r(1, "a"), 9, 9, 1)), insert(at, up(r(1, 1), 9, 9, 1)), advance(at, pair(9, 9)), advance(at))
		}
		if n.Kind != api.NodeArrange {
			notKept(t, fmt.Sprint("no arrangement ", at), compact(at, pair(9, 9)), compact(at), compact(at, zero))
		}
	}
}

func TestNoPlans(t *testing.T) { // P33.1, P33.2: bytes that are no plan, plans that may not be
	whole := bytesOf(wide())
	bad := map[string][]byte{"nothing": nil, "one byte": {80}, "another first byte": append([]byte{81}, whole[1:]...), "cut": whole[:len(whole)-1], "and more": append(slices.Clone(whole), 0), "zeros": make([]byte, 50)}
	for name, p := range map[string]api.Plan{
		"no node": {Outs: []int{0}, Room: 1}, "no out": outsAre(wide()), "no room": planOf(0, input(num)), "much room": planOf(api.MaxRoom+1, input(num)), "an out that is no node": outsAre(wide(), 10),
		"no such kind": planOf(1, input(num), api.Node{Kind: api.Nodes, Ins: []int{0}}), "round": planOf(1, input(num), negate(2), negate(1)), "its own in": planOf(1, negate(0)), "kinds": planOf(1, input(2)), "a key": planOf(1, input(num), arrange(0, 2)),
	} {
		bad[name] = bytesOf(p)
	}
	for name, b := range bad {
		l := cmds(api.Cmd{Do: api.CmdInstall, Sheet: b})
		keeps(t, name, l)
		refuses(t, name, and(l, busy()[1:]...), api.ErrNone, zero)
		keeps(t, name+", and a plan", and(l, busy()...), busy()...)
		notKept(t, name, l...)
	}
}

func TestNoFits(t *testing.T) { // P33.1: changes that do not fit
	long := strings.Repeat("x", api.MaxText+1)
	var l []api.Cmd
	for _, row := range []api.Row{nil, r(1), r("a"), r("a", 1), r("a", "a"), r(1, "a", 1), r(1, long), r(1, api.Val{Kind: 2, Str: "a"}), r(1, api.Val{Kind: -1}), r(api.Val{Kind: low}, "a"), many(17, api.Val{}), many(5000, api.Val{})} {
		l = append(l, insert(1, up(row, 9, 9, 1)))
	}
	for _, row := range []api.Row{nil, r(1), r(1, "a"), r(1, 1, 1), r(api.Val{Kind: high}, 1)} {
		l = append(l, insert(7, up(row, 9, 9, 1)))
	}
	notKept(t, "rows", append(l, insert(6, up(r(1), 9, 9, 1)))...)
	notKept(t, "differences of 0", insert(1, up(r(1, "a"), 9, 9, 0)), insert(6, up(nil, 9, 9, 0)))
	l = nil
	for _, when := range noTimes() {
		l = append(l, insert(1, api.Up{Row: r(1, "a"), Time: when, Diff: 1}), insert(6, api.Up{Time: when, Diff: 1}))
	}
	notKept(t, "no times", l...)
	keeps(t, "late", and(busy(), insert(1, up(r(1, "a"), 2, 2, 1)), insert(1, up(r(1, "a"), 0, 99, 1)), insert(7, up(r(1, 1), 1, 99, 1))), busy()...)
	fits := cmds(insert(1, up(r(low, long[1:]), 9, 9, low)), insert(1, up(r(high, ""), 1<<40, 1<<40, high)))
	keeps(t, "just so", and(busy(), fits...), and(busy(), fits...)...)
}

// noTimes are such as moment.Check does not take.
func noTimes() []api.Time {
	return times(pair(-1, 9), pair(9, -1), pair(low, 9), pair(9, low), pair(api.MaxTime+1, 9), pair(9, api.MaxTime+1), pair(high, high), pair(9, high), pair(-1, -1))
}

func TestNoFrontiers(t *testing.T) { // P33.1: frontiers that go back, that are none, that have too many times
	var l []api.Cmd
	for _, f := range [][]api.Time{stairs(17), make([]api.Time, 17), stairs(1025), times(pair(9, 9), pair(9, 9)), times(pair(9, 8), pair(8, 9)), times(pair(8, 8), pair(9, 8)), times(pair(9, 9), pair(-1, 9))} {
		l = append(l, advance(1, f...), advance(6, f...), compact(2, f...), compact(5, f...))
	}
	for _, when := range noTimes() {
		l = append(l, advance(6, when), compact(5, when))
	}
	notKept(t, "no frontiers", l...)
	all := busy()
	keeps(t, "back", and(all, advance(1, zero), advance(1, pair(1, 2)), advance(1, pair(2, 2)), advance(4, pair(0, 3)), advance(7, pair(1, 9)), compact(2, zero), compact(2, pair(0, 1)), compact(2, pair(1, 0)), compact(8, pair(0, 9))), all...)
}

func TestWrongSinces(t *testing.T) { // P33.3: what front.Check refuses, what is empty, what is not LessEq a frontier: the first error
	all := busy()
	closed := and(all, advance(1), advance(4), advance(6), advance(7))
	for name, l := range map[string][]api.Cmd{"open": all, "closed": closed, "installed": all[:1]} {
		for _, when := range noTimes() {
			refuses(t, name+", no time", l, api.ErrTime, when)
			refuses(t, name+", no time, and no order", l, api.ErrTime, pair(5, 5), when, pair(5, 5))
		}
		refuses(t, name+", many", l, api.ErrMany, stairs(1025)...)
		refuses(t, name+", many that are none", l, api.ErrMany, many(1025, pair(-1, 0))...)
		refuses(t, name+", very many", l, api.ErrMany, many(5000, zero)...)
		refuses(t, name+", twice", l, api.ErrForm, zero, zero)
		refuses(t, name+", no order", l, api.ErrForm, pair(9, 5), pair(5, 9))
		refuses(t, name+", one LessEq another", l, api.ErrForm, zero, pair(0, 1))
		refuses(t, name+", none", l, api.ErrArg)
		if got, e := journal.Tidy(l, []api.Time{}); e != api.ErrArg || got != nil {
			t.Errorf("%s, an empty one: %s, error %d", name, brief(got), int(e))
		}
	}
	refuses(t, "beyond", all, api.ErrTime, pair(0, 1))
	refuses(t, "beyond", all[:1], api.ErrTime, pair(1, 0))
	if _, e := journal.Tidy(closed, times(pair(99, 99))); e != api.OK {
		t.Errorf("beyond all that came: error %d", int(e))
	}
}

func TestTooGreat(t *testing.T) { // P33.3: ErrOver of the first input and of a later one, ahead of since and only once they are advanced to it; nothing beside it
	p := planOf(3, input(num), arrange(0, 1), input(num))
	for _, at := range []int{0, 2} {
		for _, most := range []struct{ all, one int }{{high, 1}, {low, -1}, {1 << 62, 1 << 62}, {-1 << 62, -1<<62 - 1}} {
			one := func(x, epoch, diff int) api.Cmd { return insert(at, up(r(x), epoch, 0, diff)) }
			name := fmt.Sprintf("input %d, %d and %d", at, most.all, most.one)
			fine := insert(2-at, up(r(1), 0, 0, 1))
			ends := cmds(advance(0, pair(5, 0)), advance(2, pair(5, 0)))
			l := slices.Concat(cmds(install(p), fine, one(1, 0, 7), one(2, 0, most.all), one(2, 0, most.one), fine), ends)
			keeps(t, name, l, l...)
			for _, since := range []int{0, 1, 5} {
				refuses(t, name+", at one time", l, api.ErrOver, pair(since, 0))
			}
			l = slices.Concat(cmds(install(p), fine, one(2, 1, most.all), one(2, 2, most.one)), ends)
			keeps(t, name, l, l...)
			tidies(t, name, l, times(pair(1, 0)), tidied(l, at)...)
			refuses(t, name+", advanced", l, api.ErrOver, pair(2, 0))
			refuses(t, name+", advanced", l, api.ErrOver, pair(5, 0))
			refuses(t, name+", and since is none", l, api.ErrArg)
			refuses(t, name+", and since is beyond", l, api.ErrTime, pair(6, 0))
			refuses(t, name+", and since has no order", l, api.ErrForm, pair(6, 0), pair(6, 0))
			// In the order in which they stand: there and back again it is too great on the way.
			l = cmds(install(p), one(2, 0, most.all), one(2, 0, most.one), one(2, 0, -most.one))
			refuses(t, name+", and back", l, api.ErrOver, zero)
			l = cmds(install(p), one(2, 0, most.all), one(2, 0, -most.one), one(2, 0, most.one))
			tidies(t, name+", the other way", l, times(zero), install(p), one(2, 0, most.all))
		}
	}
	l := cmds(install(p), insert(0, up(r(1), 0, 0, low)), insert(2, up(r(1), 0, 0, high)), insert(2, up(r(1), 0, 1, high)))
	tidies(t, "the greatest by themselves", l, times(zero), l...)
}

// tidied are an install, a fine insert at an input, two at the other one, and two advances, behind (1, 0).
func tidied(l []api.Cmd, at int) []api.Cmd {
	fine := copiedCmd(l[1])
	fine.Up.Time = pair(1, 0)
	if at == 0 {
		return cmds(l[0], l[2], l[3], fine, l[4], l[5])
	}
	return cmds(l[0], fine, l[2], l[3], l[4], l[5])
}

// crowd are so many inserts at an input, of few rows.
func crowd(at, many int, row api.Row) []api.Cmd {
	l := make([]api.Cmd, 0, many)
	for i := range many {
		l = append(l, insert(at, up(row, i%5, 0, 1+i%2)))
	}
	return l
}

func TestFullQueues(t *testing.T) { // P33.1 to P33.3: as many inserts as fill a queue, and one more: only what comes ahead of that one is kept, whatever comes behind it
	row := r(1)
	single, double := planOf(1, input(num), arrange(0, 1)), planOf(api.MaxRoom, input(num), input(num), concat(0, 1), joins(0, 0, 1))
	out := planOf(1, input(num))
	twice := outsAre(planOf(1, input(num), input(num)), 1, 0, 1)
	for name, k := range map[string]struct {
		p  api.Plan
		in int
	}{"a queue": {single, 0}, "queues": {double, 0}, "the queue of a later input": {double, 1}, "an out": {out, 0}, "an out twice": {twice, 1}, "an input that is both": {outsAre(single, 0), 0}} {
		full := and(cmds(install(k.p)), crowd(k.in, api.MaxQueue, row)...)
		last := advance(k.in, pair(3, 0))
		one := insert(k.in, up(row, 4, 0, 1))
		l := and(full, last)
		isCut(t, name+" that is full", l, l, k.in)
		late := cmds(insert(k.in, up(row, 2, 0, 1)), insert(9, up(row, 9, 0, 1)), last)
		isCut(t, name+" that is full, and a late one", slices.Concat(l, late), and(l, last), k.in)
		more := cmds(step(1, 9), one, one, advance(k.in, pair(4, 0)), compact(1, pair(1, 0)), advance(0), advance(1), insert(0, up(row, 9, 0, 1)), install(k.p))
		isCut(t, name+" that is full, and one more", slices.Concat(l, more), l, k.in)
	}
}

// isCut holds a session of which is kept what fills a queue or an out, and what comes ahead of one more.
func isCut(t *testing.T, name string, l, want []api.Cmd, in int) {
	t.Helper()
	if bad := difference(journal.Keep(l), want); bad != "" {
		t.Fatalf("%s: Keep: %s", name, bad)
	}
	if f, e := journal.Fronts(l); e != api.OK || !slices.Equal(f[in], times(pair(3, 0))) {
		t.Errorf("%s: Fronts: %v, error %d", name, f, int(e))
	}
	g, e := journal.Restore(l)
	if e != api.OK || g.Failed() != nil {
		t.Fatalf("%s: Restore: error %d, %v", name, int(e), g.Failed())
	}
	if f, _ := g.Flow().Frontier(in); !slices.Equal(f, times(pair(3, 0))) {
		t.Errorf("%s: Restore: %v", name, f)
	}
	tidied, _ := recordOf(l).tidied(times(zero))
	got, e := journal.Tidy(l, times(zero))
	if bad := difference(got, tidied); e != api.OK || len(got) != 7 || bad != "" {
		t.Fatalf("%s: Tidy: error %d, %s: %s", name, int(e), brief(got), bad)
	}
}

func TestManyInserts(t *testing.T) { // P33.1: more than MaxQueue where nothing is full: of an input that leads nowhere, of two inputs together
	row := r(1)
	p := outsAre(planOf(1, input(num), input(num), input(num), concat(1, 2)), 1)
	l := and(cmds(install(p)), crowd(0, api.MaxQueue+3, row)...)
	keeps(t, "nowhere", l, l...)
	l = slices.Concat(cmds(install(p)), crowd(2, 40000, row), crowd(1, 40000, row), crowd(0, 3, row))
	keeps(t, "two inputs", l, l...)
	tidies(t, "two inputs", cmds(install(p), insert(0, up(row, 0, 0, 1))), times(zero), install(p), insert(0, up(row, 0, 0, 1)))
	many := slices.Concat(l, crowd(2, 30000, row))
	keeps(t, "two inputs, and one is full", many, many[:len(l)+api.MaxQueue-40000]...)
	many = slices.Concat(cmds(install(p)), crowd(2, api.MaxQueue+1, row), crowd(1, 5, row), cmds(advance(0), compact(3)))
	keeps(t, "one is full, and another one goes on", many, many[:1+api.MaxQueue]...)
}

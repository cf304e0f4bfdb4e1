package script_test

import (
	"bytes"
	"fmt"
	"slices"
	"strings"
	"testing"

	"runnel/api"
	"runnel/script"
	"runnel/sheet"
	"runnel/wire"
)

// busyPlan is a plan with nodes of all kinds that have something to keep: an arrangement (3), a hold (4), a join (5), a fold (6); two inputs (0, 1).
func busyPlan() api.Plan {
	return outsAre(planOf(3, input(num, text), input(num, num), negate(0), arrange(2, 1), consolidate(3), joins(3, 1, 1), counts(5, 1)), 6, 0, 4, 5)
}

// busyCommands are an install and commands behind which something waits in queues and in the join, is held, is to do, and is to be merged.
func busyCommands() []api.Cmd {
	l := cmds(install(busyPlan()))
	for i := range 5 {
		l = append(l, insert(0, up(r(i%2, "a"), i, 1, 1)), insert(0, up(r(i%2, "b"), 1, i, 2)), insert(1, up(r(i%2, i), i, i, 1)))
	}
	l = append(l, advance(0, pair(1, 3), pair(3, 2)), advance(1, pair(0, 2), pair(2, 1)), poll(1))
	for round := range 2 {
		for _, at := range []int{2, 3, 4, 5, 5, 5, 5, 6} {
			l = append(l, step(at, 2))
		}
		l = append(l, poll(3), poll(round))
	}
	return append(l, step(5, 6), compact(3, pair(0, 2), pair(1, 1)))
}

// endings are commands behind which all is closed, and quiet.
func endings() []api.Cmd {
	l := cmds(advance(0), advance(1))
	for range 30 {
		for at := range busyPlan().Nodes {
			l = append(l, step(at, 20))
		}
	}
	return l
}

// refused holds commands that an engine refuses behind the busy ones: each has its code, and no note; what comes behind them is noted as if they were not there.
func refused(t *testing.T, name string, want api.Errno, l ...api.Cmd) {
	t.Helper()
	plain := script.Play(and(busyCommands(), endings()...))
	first := script.Play(busyCommands())
	if len(first.Notes) < 20 || len(plain.Notes) < len(first.Notes)+20 {
		t.Fatalf("only %d of %d notes", len(first.Notes), len(plain.Notes))
	}
	between := slices.Concat(first.Codes, many(len(l), want))
	told := script.Play(and(busyCommands(), l...))
	if bad := difference(told, api.Told{Notes: first.Notes, Codes: between, Peeks: first.Peeks}); bad != "" {
		t.Fatalf("%s: %s", name, bad)
	}
	told = script.Play(slices.Concat(busyCommands(), l, endings()))
	if bad := difference(told, api.Told{Notes: plain.Notes, Codes: slices.Concat(between, plain.Codes[len(first.Codes):]), Peeks: plain.Peeks}); bad != "" {
		t.Fatalf("%s, and the rest: %s", name, bad)
	}
}

func TestNoSuchCommand(t *testing.T) { // P28.1: ErrKind, with a plan, without one, and once the engine has failed
	var l []api.Cmd
	for _, do := range noNumbers(api.Cmds) {
		l = append(l, api.Cmd{Do: do}, api.Cmd{Do: do, Node: -1, Fuel: -1, Front: make([]api.Time, 17), Sheet: bytesOf(busyPlan()), Up: up(r(1, "a"), 9, 9, 1)})
	}
	refused(t, "no such command", api.ErrKind, l...)
	if bad := difference(script.Play(l), api.Told{Codes: many(len(l), api.ErrKind)}); bad != "" {
		t.Fatal(bad)
	}
	fails := cmds(install(planOf(9, input(num), mapped(0, of(api.OpNeg, col(0))))), insert(0, up(r(low), 0, 0, 1)), step(1, 1))
	if bad := difference(script.Play(and(fails, l...)), api.Told{Codes: append(codes(0, 0, api.ErrOver), many(len(l), api.ErrKind)...)}); bad != "" {
		t.Fatal(bad)
	}
}

func TestNumbersOfNoNode(t *testing.T) { // P28.1: ErrRange of nodes that there are not, and of outs
	p := busyPlan()
	for _, at := range noNumbers(len(p.Nodes)) {
		refused(t, fmt.Sprint("node ", at), api.ErrRange, insert(at, up(r(1, "a"), 9, 9, 1)), advance(at, pair(9, 9)), step(at, 0), step(at, 9), compact(at, pair(9, 9)), peek(at, pair(0, 0)))
	}
	for _, out := range append(noNumbers(len(p.Outs)), 5, 6) { // 5 and 6 are nodes, not outs
		refused(t, fmt.Sprint("out ", out), api.ErrRange, poll(out), poll(out))
	}
}

func TestLateAndBack(t *testing.T) { // P28.1: ErrTime of inserts that are late, of frontiers that go back, of times that are none
	refused(t, "late", api.ErrTime, insert(0, up(r(1, "a"), 2, 2, 1)), insert(0, up(r(1, "a"), 0, 9, 1)), insert(1, up(r(1, 1), 0, 1, 1)), insert(1, up(r(1, 1), -1, 9, 1)), insert(1, up(r(1, 1), 9, api.MaxTime+1, 1)), insert(0, up(r(1, "a"), low, high, 1)))
	refused(t, "back", api.ErrTime, advance(0, pair(0, 0)), advance(0, pair(1, 3), pair(2, 2)), advance(1, pair(0, 1)), advance(1, pair(9, 0)), advance(1, pair(-1, 0)), advance(0, pair(9, api.MaxTime+1)), compact(3, pair(0, 0)), compact(3, pair(1, 0)), compact(3, pair(9, -1)))
}

func TestOtherRefusals(t *testing.T) { // P28.1: fuel below 0, rows that do not fit, frontiers that are none, nodes of other kinds, peeks, installs
	refused(t, "fuel", api.ErrArg, step(0, -1), step(5, low), step(99, -1), step(-1, -2), insert(0, up(r(1, "a"), 9, 9, 0)))
	refused(t, "rows", api.ErrType, insert(0, up(r(1, 1), 9, 9, 1)), insert(1, up(nil, 9, 9, 1)), insert(0, up(r(1, strings.Repeat("x", 4097)), 9, 9, 1)), insert(0, up(r(1, api.Val{Kind: 2}), 9, 9, 0)), insert(1, up(many(17, api.Val{}), 9, 9, 1)))
	refused(t, "many", api.ErrMany, advance(0, make([]api.Time, 17)...), advance(1, stairs(5000)...), compact(3, stairs(17)...))
	refused(t, "form", api.ErrForm, advance(0, pair(9, 9), pair(9, 9)), advance(1, pair(9, 0), pair(0, 9)), compact(3, pair(9, 9), pair(9, 10)))
	refused(t, "kinds", api.ErrKind, insert(2, up(r(1, "a"), 9, 9, 1)), advance(6), compact(0), compact(6, pair(9, 9)), peek(4, pair(0, 0)))
	refused(t, "open", api.ErrOpen, peek(3, pair(9, 9)), peek(3, pair(-1, 0)), peek(3, pair(0, api.MaxTime+1)), peek(3, pair(low, high)))
	refused(t, "compacted", api.ErrCompacted, peek(3, pair(0, 0)), peek(3, pair(0, 1)))
	refused(t, "installs", api.ErrTime, install(busyPlan()), install(planOf(1, input(num))), install(planOf(0, input(num))), api.Cmd{Do: api.CmdInstall}, api.Cmd{Do: api.CmdInstall, Sheet: make([]byte, api.MaxSheet+1)})
}

func TestFailed(t *testing.T) { // P28.1: the error by which it fails, ErrFailed behind it, but of an install and of what is none; no note behind it, not even of what came in that command
	p := outsAre(planOf(9, input(num), mapped(0, of(api.OpNeg, col(0))), arrange(0, 1)), 1, 0, 2)
	l := cmds(
		install(p), insert(0, up(r(5), 0, 0, 1)), step(1, 1), insert(0, up(r(6), 0, 0, 1)), insert(0, up(r(low), 0, 1, 1)), advance(0, pair(0, 2)), step(2, 9), peek(2, pair(0, 1)),
		step(1, 5),
		insert(0, up(r(7), 5, 5, 1)), advance(0, pair(1, 2)), step(1, 1), step(2, 1), step(0, -1), step(99, 1), compact(2, pair(0, 1)), peek(2, pair(0, 1)), poll(0), poll(1), poll(9),
		install(p), api.Cmd{Do: api.CmdInstall}, api.Cmd{Do: api.Cmds}, advance(0),
	)
	x := times(pair(0, 2))
	told := script.Play(l)
	want := api.Told{
		Notes: notes(
			came(1, r(5), 0, 0, 1), came(0, r(-5), 0, 0, 1), came(1, r(6), 0, 0, 1), came(1, r(low), 0, 1, 1), upTo(1, x...), // (6) and the least number wait: the first out stays at (0, 0)
			came(2, r(5), 0, 0, 1), came(2, r(6), 0, 0, 1), came(2, r(low), 0, 1, 1), upTo(2, x...),
		),
		Codes: slices.Concat(many(8, api.OK), codes(api.ErrOver), many(11, api.ErrFailed), codes(api.ErrTime, api.ErrTime, api.ErrKind, api.ErrFailed)),
		Peeks: [][]api.Count{{count(1, r(low)), count(1, r(5)), count(1, r(6))}},
	}
	if bad := difference(told, want); bad != "" {
		t.Fatal(bad)
	}
	s := driven("failed", l)
	s.holdLog(t, s.hold(t).Notes)
	s.holdCuts(t)
	if closed := s.means(t, told.Notes, grid(4)); closed != 2*4 { // two outs, at round 0: at round 1 what the plan means is too great
		t.Fatalf("%d were closed", closed)
	}
}

func TestFailures(t *testing.T) { // P28.1: sums and products that leave the numbers, in each kind of node that reckons: its code, and no note behind it
	for name, k := range map[string]struct {
		p    api.Plan
		rows []api.Up
		step api.Cmd
	}{
		"a map":         {planOf(9, input(num), mapped(0, of(api.OpAdd, col(0), number(1)))), []api.Up{up(r(high), 0, 0, 1)}, step(1, 9)},
		"a filter":      {planOf(9, input(num), filter(0, of(api.OpMul, col(0), number(2)))), []api.Up{up(r(high), 0, 0, 1)}, step(1, 9)},
		"a negate":      {planOf(9, input(num), negate(0)), []api.Up{up(r(1), 0, 0, low)}, step(1, 9)},
		"a consolidate": {planOf(9, input(num), consolidate(0)), []api.Up{up(r(1), 0, 0, high), up(r(1), 0, 0, 1)}, step(1, 9)},
		"a join":        {planOf(9, input(num), joins(0, 0, 1)), []api.Up{up(r(1), 0, 0, 1<<32)}, step(1, 9)},
		"a count":       {planOf(9, input(num), counts(0, 1)), []api.Up{up(r(1), 0, 0, high), up(r(1), 0, 0, high)}, step(1, 9)},
		"a sum":         {planOf(9, input(num, num), folds(api.NodeSum, 0, 1, 1)), []api.Up{up(r(1, high), 0, 0, 2)}, step(1, 9)},
		"an arrange":    {planOf(9, input(num), arrange(0, 1)), []api.Up{up(r(1), 0, 0, high), up(r(1), 0, 0, 1)}, step(1, 99)},
	} {
		l := cmds(install(k.p))
		for _, u := range k.rows {
			l = append(l, insert(0, u))
		}
		l = append(l, advance(0, pair(1, 0)), k.step)
		told := script.Play(l)
		if at := len(l) - 1; told.Codes[at] != api.ErrOver || slices.ContainsFunc(told.Codes[:at], func(e api.Errno) bool { return e != api.OK }) {
			t.Fatalf("%s: %s", name, brief(told.Codes))
		}
		more := script.Play(and(l, poll(0), advance(0), k.step, peek(1, pair(0, 0))))
		told.Codes = append(told.Codes, many(4, api.ErrFailed)...)
		if bad := difference(more, told); bad != "" {
			t.Fatalf("%s: %s", name, bad)
		}
		if ahead := script.Play(l[:len(l)-1]); !sameNotes(more.Notes, ahead.Notes) {
			t.Fatalf("%s: %s", name, brief(more.Notes))
		}
	}
}

func TestFieldsThatAreNotUsed(t *testing.T) { // P28.1, P28.2: set to anything: the same is told
	s := driven("busy", and(busyCommands(), endings()[:40]...))
	full := copiedCmds(s.cmds)
	for i, c := range full {
		if c.Do != api.CmdInstall {
			full[i].Sheet = bytesOf(planOf(1, input(num)))
		} else {
			full[i].Node = 77
		}
		if c.Do != api.CmdInsert {
			full[i].Up.Row, full[i].Up.Diff = many(20, api.Val{Kind: 9}), low
		}
		if c.Do != api.CmdAdvance && c.Do != api.CmdCompact {
			full[i].Front = make([]api.Time, 20)
		}
		if c.Do != api.CmdStep {
			full[i].Fuel = -1
		}
	}
	if bad := difference(script.Play(full), s.told); bad != "" {
		t.Fatal(bad)
	}
	b, e := wire.Encode(full)
	if told, again, at := script.Run(b); e != api.OK || again != api.OK || at != len(b) || !sameTold(told, s.told) {
		t.Fatalf("errors %d, %d at %d", e, again, at)
	}
}

// runRefuses holds Run of bytes that are no script: wire.Decode's error and place, and nothing told.
func runRefuses(t *testing.T, name string, b []byte) (at int) {
	t.Helper()
	given := slices.Clone(b)
	told, e, at := script.Run(b)
	_, want, place := wire.Decode(given)
	if want == api.OK || e != want || at != place || !bytes.Equal(b, given) {
		t.Fatalf("%s: error %d at %d, want %d at %d", name, e, at, want, place)
	}
	if len(told.Notes)+len(told.Codes)+len(told.Peeks) != 0 {
		t.Fatalf("%s: %s is told", name, brief(told))
	}
	return at
}

// runIs holds Run of bytes that are a script.
func runIs(t *testing.T, name string, b []byte, want api.Told) {
	t.Helper()
	told, e, at := script.Run(b)
	if e != api.OK || at != len(b) {
		t.Fatalf("%s: error %d at %d of %d", name, e, at, len(b))
	}
	if bad := difference(told, want); bad != "" {
		t.Fatalf("%s: %s", name, bad)
	}
}

func TestRunByHand(t *testing.T) { // P28.2: the page's example as bytes, told by hand
	b := []byte{3, 0, byte(len(bytesOf(planOf(1, input(num)))))}
	b = append(b, bytesOf(planOf(1, input(num)))...)
	second := len(b)
	b = append(b, 1, 0, 1, 0, 14, 0, 0, 2) // insert into 0 the row (7) at (0, 0) +1
	third := len(b)
	b = append(b, 2, 0, 1, 2, 0) // advance 0 to (1, 0)
	runIs(t, "the page", b, api.Told{Notes: notes(came(0, r(7), 0, 0, 1), upTo(0, pair(1, 0))), Codes: codes(0, 0, 0)})
	for cut := range b {
		want := 0
		switch {
		case cut >= third:
			want = third
		case cut >= second:
			want = second
		case cut > 0:
			want = 1
		}
		if at := runRefuses(t, fmt.Sprint("cut at ", cut), b[:cut:cut]); at != want {
			t.Fatalf("cut at %d: the place is %d, want %d", cut, at, want)
		}
	}
	for _, more := range []byte{0, 1, 6, 127, 128, 255} {
		if at := runRefuses(t, "a byte more", append(slices.Clone(b), more)); at != len(b) {
			t.Fatalf("a byte more: the place is %d, want %d", at, len(b))
		}
	}
	b[0] = 4
	if at := runRefuses(t, "a command more", b); at != len(b) {
		t.Fatalf("a command more: the place is %d, want %d", at, len(b))
	}
	b[0] = 2
	if at := runRefuses(t, "a command less", b); at != third {
		t.Fatalf("a command less: the place is %d, want %d", at, third)
	}
}

func TestRunOfOthers(t *testing.T) { // P28.2: no bytes, a script cut short at each place, a byte more, a byte that is another one
	for _, b := range [][]byte{nil, {}, {128}, {128, 0}, {255}, {1}, {1, 7}, {0xa0, 1}, {2, 3, 4, 10}, []byte("no script"), bytes.Repeat([]byte{255}, 100)} {
		runRefuses(t, fmt.Sprintf("%x", b), b)
	}
	if at := runRefuses(t, "no bytes", nil); at != 0 {
		t.Fatalf("no bytes: %d", at)
	}
	s := driven("busy", busyCommands())
	_, b := s.encoded()
	runIs(t, "whole", b, s.told)
	for cut := range b {
		runRefuses(t, fmt.Sprint("cut at ", cut), b[:cut:cut])
		runRefuses(t, fmt.Sprint("cut at ", cut, ", with spare room"), b[:cut])
	}
	for more := range 256 {
		runRefuses(t, "a byte more", append(slices.Clone(b), byte(more)))
	}
	taken := 0
	for i := range b {
		for _, put := range []byte{0, 1, 2, 127, 128, 255} {
			other := slices.Clone(b)
			other[i] = put
			l, e, _ := wire.Decode(other)
			if e != api.OK {
				runRefuses(t, fmt.Sprintf("byte %d is %d", i, put), other)
				continue
			}
			taken++
			runIs(t, fmt.Sprintf("byte %d is %d", i, put), other, driven("", l).told)
		}
	}
	if taken < 100 {
		t.Fatalf("only %d were scripts", taken)
	}
}

func TestRunOfManyCommands(t *testing.T) { // P28.2: MaxCmds of them, and one more
	l := many(api.MaxCmds, step(0, 1))
	l[0], l[api.MaxCmds-2], l[api.MaxCmds-1] = install(planOf(1, input(num))), insert(0, up(r(7), 0, 0, 1)), advance(0, pair(1, 0))
	b, e := wire.Encode(l)
	if e != api.OK {
		t.Fatalf("error %d", e)
	}
	want := api.Told{Notes: notes(came(0, r(7), 0, 0, 1), upTo(0, pair(1, 0))), Codes: many(api.MaxCmds, api.OK)}
	runIs(t, "MaxCmds", b, want)
	over := append([]byte{0xa0, 1}, append(b[2:], 6, 0)...) // 4097, as num.Put has it
	if at := runRefuses(t, "one more", over); at != 0 {
		t.Fatalf("one more: %d", at)
	}
	more := and(l, poll(0))
	want.Codes = append(want.Codes, api.OK)
	if bad := difference(script.Play(more), want); bad != "" { // Play has no bound
		t.Fatal(bad)
	}
}

func TestSheetsInScripts(t *testing.T) { // P28.1: an install's sheet cut short at each place, with a byte more, and as long as may be: none is installed; then one is
	good := bytesOf(busyPlan())
	var l []api.Cmd
	for cut := range good {
		l = append(l, api.Cmd{Do: api.CmdInstall, Sheet: good[:cut]})
	}
	l = append(l, api.Cmd{Do: api.CmdInstall, Sheet: append(slices.Clone(good), 0)}, api.Cmd{Do: api.CmdInstall, Sheet: make([]byte, api.MaxSheet)})
	if _, e := sheet.Decode(good); e != api.OK {
		t.Fatalf("error %d", e)
	}
	busy := script.Play(busyCommands())
	want := api.Told{Notes: busy.Notes, Codes: slices.Concat(many(len(l), api.ErrForm), busy.Codes), Peeks: busy.Peeks}
	if bad := difference(script.Play(slices.Concat(l, busyCommands())), want); bad != "" {
		t.Fatal(bad)
	}
	driven("sheets", slices.Concat(l, busyCommands())).holdRun(t)
}

package script_test

import (
	"slices"
	"testing"

	"runnel/api"
	"runnel/change"
	"runnel/engine"
	"runnel/plan"
	"runnel/script"
	"runnel/wire"
)

func TestThePage(t *testing.T) { // P28.1: the page's example
	l := cmds(install(planOf(1, input(num))), insert(0, up(r(7), 0, 0, 1)), advance(0, pair(1, 0)))
	plays(t, "the page", l, api.Told{Notes: notes(came(0, r(7), 0, 0, 1), upTo(0, pair(1, 0))), Codes: codes(0, 0, 0)})
}

func TestEveryKindIsThere(t *testing.T) {
	seen := make([]int, api.Nodes)
	p := everyKind()
	for _, one := range p.Nodes {
		seen[one.Kind]++
	}
	if e, _ := plan.Check(p); e != api.OK || slices.Contains(seen, 0) {
		t.Fatalf("error %d, %v", e, seen)
	}
}

func TestByHand(t *testing.T) { // P28.1: several outs: out by out the changes, and then the frontier, behind the command in which they come
	p := outsAre(planOf(2, input(num, text), filter(0, of(api.OpLess, number(0), col(0))), arrange(1, 1), counts(2, 1)), 3, 0, 2)
	l := cmds(
		install(p),
		insert(0, up(r(1, "a"), 0, 0, 1)),
		insert(0, up(r(0, "a"), 0, 0, 1)),
		insert(0, up(r(1, "b"), 1, 0, 2)),
		step(1, 9),
		advance(0, pair(0, 1)),
		step(2, 1),
		peek(2, pair(0, 0)),
		peek(2, pair(1, 0)),
		step(2, 9),
		step(3, 3),
		advance(0, pair(2, 1)),
		insert(0, up(r(1, "a"), 1, 9, 1)),
		step(3, 1),
		peek(2, pair(1, 9)),
		compact(2, pair(1, 0)),
		peek(2, pair(0, 0)),
		poll(0),
		advance(0),
		advance(0),
	)
	plays(t, "by hand", l, api.Told{
		Notes: notes(
			came(1, r(1, "a"), 0, 0, 1),
			came(1, r(0, "a"), 0, 0, 1),
			came(1, r(1, "b"), 1, 0, 2),
			upTo(1, pair(0, 1)), // the filter has handed on all that came; (1 a) and (1 b) wait at the arrangement
			came(2, r(1, "a"), 0, 0, 1), upTo(2, pair(0, 1), pair(1, 0)),
			came(2, r(1, "b"), 1, 0, 2), upTo(2, pair(0, 1)),
			came(0, r(1, 1), 0, 0, 1), upTo(0, pair(0, 1), pair(1, 0)),
			upTo(0, pair(1, 0)), upTo(1, pair(2, 1)), upTo(2, pair(2, 1)),
			came(0, r(1, 1), 1, 0, -1), came(0, r(1, 3), 1, 0, 1), upTo(0, pair(2, 1)),
			upTo(0), upTo(1), upTo(2),
		),
		Codes: codes(0, 0, 0, 0, 0, 0, 0, 0, api.ErrOpen, 0, 0, 0, api.ErrTime, 0, 0, 0, api.ErrCompacted, 0, 0, 0),
		Peeks: [][]api.Count{{count(1, r(1, "a"))}, {count(1, r(1, "a")), count(2, r(1, "b"))}},
	})
}

func TestNoCommand(t *testing.T) { // P28.1, P28.2: nothing is told
	plays(t, "nil", nil, api.Told{})
	plays(t, "empty", cmds(), api.Told{})
	b, _ := wire.Encode(nil)
	if told, e, at := script.Run(b); e != api.OK || at != 1 || len(b) != 1 || !sameTold(told, api.Told{}) {
		t.Fatalf("%v, error %d at %d", told, e, at)
	}
}

func TestNoInstall(t *testing.T) { // P28.1: a code for each command, and no note
	l := cmds(insert(0, up(r(1), 0, 0, 1)), advance(0), step(0, 1), compact(0), peek(0, pair(0, 0)), poll(0), step(0, -1), poll(-1), api.Cmd{Do: api.CmdInstall}, install(planOf(0, input(num))), install(planOf(3, negate(0))))
	none := many(8, api.ErrNone)
	plays(t, "no install", l, api.Told{Codes: append(none, api.ErrForm, api.ErrArg, api.ErrLoop)})
}

func TestAheadOfInstall(t *testing.T) { // P28.1: what is refused there is not noted later, either
	p := outsAre(planOf(3, input(num), negate(0)), 1, 0)
	l := cmds(insert(0, up(r(1), 0, 0, 1)), advance(0, pair(5, 5)), poll(0), install(p), insert(0, up(r(2), 0, 0, 1)), step(1, 1), advance(0, pair(1, 1)))
	plays(t, "ahead", l, api.Told{
		Notes: notes(came(1, r(2), 0, 0, 1), came(0, r(2), 0, 0, -1), upTo(0, pair(1, 1)), upTo(1, pair(1, 1))),
		Codes: codes(api.ErrNone, api.ErrNone, api.ErrNone, 0, 0, 0, 0),
	})
}

func TestInstallAgain(t *testing.T) { // P28.1: it is refused, and nothing is noted anew; behind one that is refused one is taken
	p, other := planOf(3, input(num)), outsAre(planOf(3, input(num, num), negate(0)), 0, 1)
	l := cmds(
		api.Cmd{Do: api.CmdInstall, Sheet: []byte("no plan")}, install(planOf(0, input(num))), poll(0), install(planOf(1, negate(0))), install(p),
		install(p), insert(0, up(r(2), 0, 0, 1)), install(other), advance(0, pair(1, 1)), install(p), install(planOf(0, input(num))), insert(0, up(r(3), 1, 2, 1)), install(other), poll(1),
	)
	plays(t, "again", l, api.Told{
		Notes: notes(came(0, r(2), 0, 0, 1), upTo(0, pair(1, 1)), came(0, r(3), 1, 2, 1)),
		Codes: codes(api.ErrForm, api.ErrArg, api.ErrNone, api.ErrLoop, 0, api.ErrTime, 0, api.ErrTime, 0, api.ErrTime, api.ErrTime, 0, api.ErrTime, api.ErrRange),
	})
}

func TestOutsThatAreOneNode(t *testing.T) { // P28.1: each has its own notes
	p := outsAre(planOf(3, input(num), negate(0)), 1, 0, 1, 1, 0)
	l := cmds(install(p), insert(0, up(r(2), 0, 3, 4)), step(1, 1), insert(0, up(r(5), 0, 0, 1)), advance(0, pair(0, 1)), step(1, 1))
	one := pair(0, 1)
	plays(t, "one node", l, api.Told{
		Notes: notes(
			came(1, r(2), 0, 3, 4), came(4, r(2), 0, 3, 4),
			came(0, r(2), 0, 3, -4), came(2, r(2), 0, 3, -4), came(3, r(2), 0, 3, -4),
			came(1, r(5), 0, 0, 1), came(4, r(5), 0, 0, 1),
			upTo(1, one), upTo(4, one),
			came(0, r(5), 0, 0, -1), upTo(0, one), came(2, r(5), 0, 0, -1), upTo(2, one), came(3, r(5), 0, 0, -1), upTo(3, one),
		),
		Codes: many(6, api.OK),
	})
}

func TestPolls(t *testing.T) { // P28.1: a poll tells nothing twice, and nothing of another out; one of an out that there is not is refused
	p := outsAre(planOf(3, input(num), negate(0)), 1, 0, 1)
	l := cmds(install(p), poll(0), insert(0, up(r(2), 0, 0, 1)), poll(1), poll(1), poll(0), step(1, 1), poll(0), poll(2), poll(3), poll(-1), advance(0, pair(1, 0)), poll(1), poll(0))
	x := pair(1, 0)
	want := notes(came(1, r(2), 0, 0, 1), came(0, r(2), 0, 0, -1), came(2, r(2), 0, 0, -1), upTo(0, x), upTo(1, x), upTo(2, x))
	plays(t, "polls", l, api.Told{Notes: want, Codes: codes(0, 0, 0, 0, 0, 0, 0, 0, 0, api.ErrRange, api.ErrRange, 0, 0, 0)})
	without := slices.DeleteFunc(slices.Clone(l), func(c api.Cmd) bool { return c.Do == api.CmdPoll })
	plays(t, "without polls", without, api.Told{Notes: want, Codes: many(4, api.OK)})
}

func TestFrontiers(t *testing.T) { // P28.1: noted where it is another one than the one noted last; that of (0, 0), at first, is not; an empty one is, once
	a, b := times(pair(0, 2), pair(2, 0)), times(pair(1, 2), pair(2, 1))
	in := func(l ...api.Time) api.Cmd { return advance(0, l...) }
	start := install(planOf(1, input()))
	for name, k := range map[string]struct {
		l    []api.Cmd
		want []api.Note
	}{
		"none":                  {cmds(start, poll(0), step(0, 5)), nil},
		"the first one again":   {cmds(start, in(pair(0, 0)), in(pair(0, 0)), poll(0)), nil},
		"a change, no frontier": {cmds(start, insert(0, up(nil, 5, 5, 1)), in(pair(0, 0))), notes(came(0, nil, 5, 5, 1))},
		"one":                   {cmds(start, in(a...), in(a...), poll(0), in(a...)), notes(upTo(0, a...))},
		"two":                   {cmds(start, in(a...), in(b...), in(b...)), notes(upTo(0, a...), upTo(0, b...))},
		"one time less":         {cmds(start, in(a...), in(a[1:]...)), notes(upTo(0, a...), upTo(0, a[1]))},
		"one round further":     {cmds(start, in(pair(0, 1)), in(pair(0, 2))), notes(upTo(0, pair(0, 1)), upTo(0, pair(0, 2)))},
		"empty":                 {cmds(start, in(), in(), poll(0), in(), step(0, 1)), notes(upTo(0))},
		"empty behind others":   {cmds(start, in(a...), in(), in(), poll(0)), notes(upTo(0, a...), upTo(0))},
		"the last time":         {cmds(start, in(pair(api.MaxTime, api.MaxTime)), in()), notes(upTo(0, pair(api.MaxTime, api.MaxTime)), upTo(0))},
		"MaxGiven times":        {cmds(start, in(stairs(api.MaxGiven)...)), notes(upTo(0, stairs(api.MaxGiven)...))},
		"what is refused":       {cmds(start, in(b...), in(a...), in(pair(0, 0)), in(stairs(17)...), insert(0, up(nil, 0, 0, 1))), notes(upTo(0, b...))},
		"of an input that is not the out's": {
			cmds(install(planOf(1, input(), input())), advance(0, pair(3, 3)), advance(0), advance(1, pair(2, 2))),
			notes(upTo(0, pair(2, 2))),
		},
		"of two inputs that lead to it": {
			cmds(install(planOf(1, input(), input(), concat(0, 1))), advance(0, pair(3, 3)), advance(0), advance(1, pair(2, 2)), advance(1)),
			notes(upTo(0, pair(2, 2)), upTo(0)),
		},
		"what waits": {
			cmds(install(planOf(1, input(), negate(0))), insert(0, up(nil, 1, 1, 1)), insert(0, up(nil, 2, 0, 1)), advance(0), step(1, 1), step(1, 1)),
			notes(upTo(0, pair(1, 1), pair(2, 0)), came(0, nil, 1, 1, -1), upTo(0, pair(2, 0)), came(0, nil, 2, 0, -1), upTo(0)),
		},
	} {
		told := script.Play(k.l)
		if bad := firstOther("note", told.Notes, k.want, sameNote); bad != "" {
			t.Errorf("%s: %s", name, bad)
		}
		s := driven(name, k.l)
		s.holdLog(t, s.hold(t).Notes)
		s.holdCuts(t)
	}
}

func TestPeeks(t *testing.T) { // P28.1: one that has no rows is there all the same; one with an error is not; nothing else is
	p := outsAre(planOf(9, input(num), arrange(0, 1), negate(1)), 2)
	l := cmds(
		peek(1, pair(0, 0)), install(p), peek(1, pair(0, 0)), advance(0, pair(1, 0)), peek(1, pair(0, 0)), peek(1, pair(0, 9)), peek(1, pair(1, 0)),
		insert(0, up(r(3), 1, 0, 2)), insert(0, up(r(2), 1, 0, -1)), insert(0, up(r(3), 1, 1, -2)), step(1, 9), advance(0, pair(5, 5)),
		peek(1, pair(1, 0)), peek(0, pair(1, 0)), peek(2, pair(1, 0)), peek(3, pair(1, 0)), peek(1, pair(1, 1)), peek(1, pair(-1, 0)), peek(1, pair(0, 0)),
		compact(1, pair(1, 1)), peek(1, pair(1, 0)), peek(1, pair(1, 1)), poll(0), step(1, 5),
	)
	both, one := []api.Count{count(-1, r(2)), count(2, r(3))}, []api.Count{count(-1, r(2))}
	told := script.Play(l)
	if want := [][]api.Count{nil, nil, both, one, nil, one}; !samePeeks(told.Peeks, want) {
		t.Fatalf("%s, want %s", brief(told.Peeks), brief(want))
	}
	want := codes(api.ErrNone, 0, api.ErrOpen, 0, 0, 0, api.ErrOpen, 0, 0, 0, 0, 0, 0, api.ErrKind, api.ErrKind, api.ErrRange, 0, api.ErrOpen, 0, 0, api.ErrCompacted, 0, 0, 0)
	if !slices.Equal(told.Codes, want) {
		t.Fatalf("%s, want %s", brief(told.Codes), brief(want))
	}
	s := driven("peeks", l)
	s.hold(t)
	s.holdCuts(t)
	s.holdRun(t)
}

func TestPeekOfTooMuch(t *testing.T) { // P28.1: it has an error, and lets nothing fail
	l := cmds(install(planOf(9, input(num), arrange(0, 1))), insert(0, up(r(1), 0, 0, high)), insert(0, up(r(1), 0, 1, 1)), step(1, 2), advance(0, pair(1, 1)), peek(1, pair(0, 1)), peek(1, pair(0, 0)), insert(0, up(r(2), 1, 1, 1)), step(1, 1))
	plays(t, "too much", l, api.Told{
		Notes: notes(came(0, r(1), 0, 0, high), came(0, r(1), 0, 1, 1), upTo(0, pair(1, 1)), came(0, r(2), 1, 1, 1)),
		Codes: codes(0, 0, 0, 0, 0, api.ErrOver, 0, 0, 0),
		Peeks: [][]api.Count{{count(high, r(1))}},
	})
}

func TestEveryKindOfNode(t *testing.T) { // P28.1, P28.3, P28.4: eight outs, each command's notes
	s := newSession("every kind")
	s.do(install(everyKind()))
	for i := range 4 {
		s.do(insert(0, up(r(i%2, "a"), i, 0, 1)))
		s.do(insert(1, up(r(i%2, i), i, 1, 2)))
		s.do(insert(1, up(r(0, 3-i), i, 0, -1)))
		s.do(advance(0, pair(i, 2), pair(i+1, 0)))
		s.do(advance(1, pair(i+1, 0)))
		for range 6 {
			for at := range s.p.Nodes {
				s.do(step(at, 5))
			}
		}
		s.do(peek(9, pair(i, 0)))
	}
	s.do(advance(0))
	s.do(advance(1))
	s.settle(t, 3)
	told := s.hold(t)
	s.holdLog(t, told.Notes)
	s.holdRun(t)
	if closed := s.means(t, told.Notes, grid(6)); closed != 8*36 {
		t.Fatalf("%d were closed", closed)
	}
	if len(s.told.Peeks) != 4 || len(s.told.Notes) < 100 {
		t.Fatalf("%d peeks, %d notes", len(s.told.Peeks), len(s.told.Notes))
	}
}

func TestNotesCallByCall(t *testing.T) { // P28.2: with was as the call before told it: what Play notes
	p := outsAre(planOf(3, input(num), negate(0), counts(1, 1)), 2, 0, 1)
	l := cmds(install(p), insert(0, up(r(1), 0, 0, 1)), step(1, 1), step(2, 1), advance(0, pair(1, 1)), step(2, 1), insert(0, up(r(1), 2, 2, 1)), poll(1), advance(0), step(1, 1), step(2, 3))
	g := engine.New()
	var was [][]api.Time
	var all []api.Note
	for _, c := range l {
		g.Do(c)
		var more []api.Note
		more, was = script.Notes(was, g)
		all = append(all, more...)
	}
	if bad := firstOther("note", all, script.Play(l).Notes, sameNote); bad != "" {
		t.Fatal(bad)
	}
	if !sameFronts(was, fronts(nil, nil, nil)) {
		t.Fatalf("%v", was)
	}
}

func TestNotesTwice(t *testing.T) { // P28.2: nothing the second time
	origin := times(pair(0, 0))
	g := done(t, install(outsAre(planOf(3, input(num), negate(0)), 1, 0)))
	was := tells(t, "no change", nil, g, nil, fronts(origin, origin))
	was = tells(t, "no change again", was, g, nil, fronts(origin, origin))
	g.Do(insert(0, up(r(1), 1, 1, 1)))
	g.Do(step(1, 1))
	g.Do(insert(0, up(r(2), 0, 2, 1)))
	g.Do(advance(0, pair(0, 3)))
	want := notes(came(0, r(1), 1, 1, -1), upTo(0, pair(0, 2)), came(1, r(1), 1, 1, 1), came(1, r(2), 0, 2, 1), upTo(1, pair(0, 3)))
	then := fronts(times(pair(0, 2)), times(pair(0, 3)))
	was = tells(t, "both", was, g, want, then)
	for range 3 {
		was = tells(t, "again", was, g, nil, then)
	}
	g.Do(advance(0))
	was = tells(t, "an empty one", was, g, notes(upTo(1)), fronts(times(pair(0, 2)), nil))
	was = tells(t, "an empty one again", was, g, nil, fronts(times(pair(0, 2)), nil))
	g.Do(step(1, 5))
	was = tells(t, "the last change", was, g, notes(came(0, r(2), 0, 2, -1), upTo(0)), fronts(nil, nil))
	tells(t, "at the end", was, g, nil, fronts(nil, nil))
}

func TestNotesWithOthers(t *testing.T) { // P28.2: was empty, shorter than there are outs, something else than what is; an empty one that is noted is no missing one
	x, y := times(pair(1, 0)), times(pair(0, 0))
	p := outsAre(planOf(3, input(num), input(num), input(num)), 0, 1, 2)
	change := came(1, r(7), 3, 3, 1)
	for name, k := range map[string]struct {
		was, then [][]api.Time
		want      []api.Note
	}{
		"nil":                      {nil, fronts(x, y, nil), notes(upTo(0, x...), change, upTo(2))},
		"empty":                    {fronts(), fronts(x, y, nil), notes(upTo(0, x...), change, upTo(2))},
		"one":                      {fronts(y), fronts(x, y, nil), notes(upTo(0, x...), change, upTo(2))},
		"one that is the same":     {fronts(x), fronts(x, y, nil), notes(change, upTo(2))},
		"two":                      {fronts(x, y), fronts(x, y, nil), notes(change, upTo(2))},
		"all":                      {fronts(x, y, nil), fronts(x, y, nil), notes(change)},
		"an empty list for nil":    {fronts(x, y, times()), fronts(x, y, nil), notes(change)},
		"the beginning":            {fronts(y, y, y), fronts(x, y, nil), notes(upTo(0, x...), change, upTo(2))},
		"empty ones were noted":    {fronts(nil, nil, nil), fronts(x, y, nil), notes(upTo(0, x...), change, upTo(1, y...))},
		"one empty one was noted":  {fronts(nil), fronts(x, y, nil), notes(upTo(0, x...), change, upTo(2))},
		"others":                   {fronts(times(pair(2, 0)), x, x), fronts(x, y, nil), notes(upTo(0, x...), change, upTo(1, y...), upTo(2))},
		"more times":               {fronts(times(pair(0, 1), pair(1, 0)), y, nil), fronts(x, y, nil), notes(upTo(0, x...), change)},
		"more than there are outs": {fronts(x, y, nil, x, nil), fronts(x, y, nil, x, nil), notes(change)},
	} {
		g := done(t, install(p), insert(1, up(r(7), 3, 3, 1)), advance(0, x...), advance(2))
		was := tells(t, name, k.was, g, k.want, k.then)
		tells(t, name+", again", was, g, nil, k.then)
	}
}

func TestNotesPolls(t *testing.T) { // P28.2: what was polled is not noted, and what is noted is polled no more; the frontier is noted in either case
	g := done(t, install(outsAre(planOf(3, input(num)), 0, 0)), insert(0, up(r(1), 0, 0, 1)), insert(0, up(r(2), 0, 0, 1)), poll(0), insert(0, up(r(3), 1, 0, 1)), advance(0, pair(1, 0)))
	x := times(pair(1, 0))
	was := tells(t, "polled", nil, g, notes(came(0, r(3), 1, 0, 1), upTo(0, x...), came(1, r(1), 0, 0, 1), came(1, r(2), 0, 0, 1), came(1, r(3), 1, 0, 1), upTo(1, x...)), fronts(x, x))
	for out := range 2 {
		if reply, err := g.Do(poll(out)); err != nil || len(reply.Ups) != 0 || !slices.Equal(reply.Front, x) {
			t.Fatalf("%v, %v", reply, err)
		}
	}
	g.Do(insert(0, up(r(4), 1, 0, 1)))
	g.Do(poll(1))
	tells(t, "the other one is polled", was, g, notes(came(0, r(4), 1, 0, 1)), fronts(x, x))
}

func TestNotesOfNoOuts(t *testing.T) { // P28.2: of an engine that is nil, has no plan, or has failed: nothing, and the frontiers that were handed in
	refused := engine.New()
	refused.Do(insert(0, up(r(1), 0, 0, 1)))
	refused.Do(install(planOf(0, input(num))))
	failed := done(t, install(outsAre(planOf(9, input(num), mapped(0, of(api.OpNeg, col(0)))), 1, 0)), insert(0, up(r(5), 0, 0, 1)), insert(0, up(r(low), 0, 0, 1)), advance(0, pair(1, 0)))
	failed.Do(step(1, 2)) // the first one is handed on, the second one is too great
	if failed.Failed() == nil {
		t.Fatal("it has not failed")
	}
	for name, g := range map[string]*engine.Engine{"nil": nil, "no plan": engine.New(), "a plan that was refused": refused, "failed": failed} {
		for _, was := range [][][]api.Time{nil, {}, {nil}, {times()}, {times(pair(0, 0))}, {times(pair(3, 4)), nil, times(pair(0, 1), pair(1, 0))}, many(20, times(pair(1, 1)))} {
			for range 2 {
				tells(t, name, was, g, nil, was)
			}
		}
	}
}

func TestAsMuchAsMayBe(t *testing.T) { // P28.1, P28.3: MaxNotes notes are a log; one change more, and the engine has failed
	p := planOf(api.MaxRoom, input(num), bucket(0, 0, 64, 1), bucket(1, 0, 64, 1))
	l := cmds(install(p))
	for i := range 16 {
		l = append(l, insert(0, up(r(i), i, 0, 1)))
	}
	l = append(l, step(1, 16), step(2, 1023), step(2, 1))
	told := script.Play(l)
	if len(told.Notes) != api.MaxNotes || slices.ContainsFunc(told.Notes, func(n api.Note) bool { return !n.IsUp }) {
		t.Fatalf("%d notes", len(told.Notes))
	}
	if e, at := change.Check(1, told.Notes); e != api.OK || at != api.MaxNotes {
		t.Fatalf("error %d at %d", e, at)
	}
	more := and(l, insert(0, up(r(1), 0, 0, 1)), step(1, 1), step(2, 1), advance(0), poll(0))
	want := api.Told{Notes: told.Notes, Codes: append(many(len(l)+2, api.OK), api.ErrMany, api.ErrFailed, api.ErrFailed)}
	if bad := difference(script.Play(more), want); bad != "" {
		t.Fatal(bad)
	}
	twice := script.Play(append(cmds(install(outsAre(p, 2, 2))), and(l[1:], advance(0))...))
	if len(twice.Notes) != 2*api.MaxNotes+2 { // all of it is told, though no log has so many
		t.Fatalf("%d notes", len(twice.Notes))
	}
}

func TestManyTimes(t *testing.T) { // P28.1: a frontier of as many times as one may have, and of more: it is noted as it is
	for _, many := range []int{api.MaxFront, api.MaxFront + 1} {
		l := cmds(install(planOf(1, input(), negate(0))))
		for _, x := range stairs(many) {
			l = append(l, insert(0, up(nil, x.Epoch, x.Round, 1)))
		}
		l = append(l, advance(0))
		told := script.Play(l)
		if !sameNotes(told.Notes, notes(upTo(0, stairs(many)...))) {
			t.Fatalf("%d times: %s", many, brief(told.Notes))
		}
		if e, _ := change.Check(1, told.Notes); many == api.MaxFront && e != api.OK {
			t.Fatalf("%d times: error %d", many, e)
		}
	}
}

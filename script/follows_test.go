package script_test

import (
	"fmt"
	"slices"
	"testing"

	"runnel/api"
	"runnel/change"
	"runnel/engine"
	"runnel/plan"
	"runnel/script"
	"runnel/wire"
)

// finish closes all inputs, and gives each node its turns until all is quiet.
func (s *session) finish(t *testing.T, fuel int) {
	t.Helper()
	s.settle(t, fuel)
	for _, in := range plan.Inputs(s.p) {
		s.do(advance(in))
	}
	s.settle(t, fuel)
}

// hasTwice: is one node two outs?
func hasTwice(p api.Plan) bool {
	l := slices.Clone(p.Outs)
	slices.Sort(l)
	return len(slices.Compact(l)) < len(p.Outs)
}

func TestAtRandom(t *testing.T) { // P28.1 to P28.4: scripts that are drawn, over plans of one out and of several
	kinds, done, refused := make([]int, api.Nodes), make([]int, api.Cmds), make([]int, api.Cmds)
	closed, twice, ups, moves := 0, 0, 0, 0
	for i := range 160 {
		x := chance(i)
		p := drawPlan(&x, 3+x.below(9), 1+i%api.MaxOuts)
		s := draw(&x, fmt.Sprintf("plan %d, %s", i, brief(p)), p, 70)
		told := s.hold(t)
		s.holdLog(t, told.Notes)
		s.holdRun(t)
		closed += s.means(t, told.Notes, append(grid(5), drawTime(&x, times(pair(4, 4)))))
		s.finish(t, anyOf(&x, 3, 20, 1000))
		told = s.hold(t)
		s.holdLog(t, told.Notes)
		if got := s.means(t, told.Notes, grid(5)); got != 25*len(p.Outs) {
			t.Fatalf("%s: %d closed", s.name, got)
		}
		if hasTwice(p) {
			twice++
		}
		for _, n := range p.Nodes {
			kinds[n.Kind]++
		}
		for j, c := range s.cmds {
			if c.Do < 0 || c.Do >= api.Cmds {
				continue
			}
			if s.told.Codes[j] == api.OK {
				done[c.Do]++
			} else {
				refused[c.Do]++
			}
		}
		for _, n := range s.told.Notes {
			if n.IsUp {
				ups++
			} else {
				moves++
			}
		}
	}
	if slices.Min(kinds) < 30 || slices.Min(done) < 100 || slices.Min(refused) < 10 || closed < 3000 || twice < 50 || ups < 5000 || moves < 2000 {
		t.Errorf("kinds %v, done %v, refused %v; %d closed, %d with a node twice, %d changes, %d frontiers", kinds, done, refused, closed, twice, ups, moves)
	}
}

func TestCuts(t *testing.T) { // P28.3: a script that is cut behind each of its commands tells a beginning of the same, and that is a log, too
	whole := 0
	for i := range 60 {
		x := chance(1000 + i)
		s := draw(&x, fmt.Sprint("plan ", i), drawPlan(&x, 3+x.below(5), 1+x.below(5)), 50)
		s.holdCuts(t)
		whole += len(s.told.Notes)
	}
	if whole < 1000 {
		t.Errorf("only %d notes", whole)
	}
}

func TestMeaningOfEachBeginning(t *testing.T) { // P28.4: behind each command, at drawn times, of all that was taken until then
	closed := 0
	for i := range 25 {
		x := chance(2000 + i)
		p := drawPlan(&x, 4+x.below(7), 1+x.below(3))
		s := newSession(fmt.Sprintf("plan %d, %s", i, brief(p)))
		s.do(install(p))
		for range 120 {
			s.do(s.drawCmd(&x))
			s.do(step(x.below(len(p.Nodes)), 1+x.below(3)))
			closed += s.means(t, s.told.Notes, times(pair(x.below(4), x.below(4)), pair(x.below(9), x.below(9))))
		}
		s.hold(t) // so that what was asked of the session's notes is so of those that are played
	}
	if closed < 2000 {
		t.Errorf("only %d were closed", closed)
	}
}

func TestFailuresAtRandom(t *testing.T) { // P28.1, P28.3, P28.4: of numbers that are too great soon or late: codes, a log, and what it means at the frontiers that were told ahead of it
	failed, closed, behind := map[api.Errno]int{}, 0, 0
	for i := range 150 {
		x := chance(3000 + i)
		p := drawPlan(&x, 3+x.below(9), 1+x.below(4))
		s := newSession(fmt.Sprintf("plan %d, %s", i, brief(p)))
		s.do(install(p))
		for call := 0; call < 120 && s.failed() == api.OK; call++ {
			c := s.drawCmd(&x)
			switch {
			case call > 40 && x.below(3) == 0:
				c = step(x.below(len(p.Nodes)), 20)
			case call > 40:
				c = great(&x, c)
			}
			s.do(c)
		}
		failed[s.failed()]++
		if s.failed() != api.OK {
			noted := len(s.told.Notes)
			for range 20 {
				s.do(s.drawCmd(&x))
			}
			if len(s.told.Notes) != noted {
				t.Fatalf("%s: it has failed, and yet something is noted", s.name)
			}
			behind += 20
		}
		told := s.hold(t)
		s.holdLog(t, told.Notes)
		if i%4 == 0 {
			s.holdCuts(t)
		}
		closed += s.means(t, told.Notes, grid(6))
	}
	if failed[api.ErrOver] < 40 || closed < 1000 || behind < 800 {
		t.Errorf("%v failed, %d closed, %d commands behind", failed, closed, behind)
	}
}

// otherTurns is a script with the same installs, inserts and advances, and other steps, fuel and compactions.
func otherTurns(x source, s *session) []api.Cmd {
	var l []api.Cmd
	arranged := s.ofKind(api.NodeArrange)
	for i, c := range s.cmds {
		if c.Do != api.CmdStep && c.Do != api.CmdCompact {
			l = append(l, c)
		} else if x.below(3) == 0 {
			c.Fuel = anyOf(x, 0, 1, 2, 50)
			l = append(l, c)
		}
		for range x.below(3) {
			l = append(l, step(x.below(len(s.p.Nodes)), x.below(5)))
		}
		if len(arranged) > 0 && i%7 == 0 {
			l = append(l, compact(anyOf(x, arranged...), pair(i/20, i/30)))
		}
	}
	return l
}

func TestOtherTurns(t *testing.T) { // P28.4: two scripts that differ in steps, fuel and compactions alone tell the same at times that are closed in both
	closed, others := 0, 0
	for i := range 120 {
		x := chance(4000 + i)
		p := drawPlan(&x, 3+x.below(9), 1+x.below(4))
		s := newSession(fmt.Sprintf("plan %d, %s", i, brief(p)))
		s.do(install(p))
		for range 80 {
			s.do(s.drawCmd(&x))
		}
		l := otherTurns(&x, s)
		first, second := script.Play(s.cmds).Notes, script.Play(l).Notes
		if driven("", l).failed() != api.OK || s.failed() != api.OK {
			t.Fatalf("%s: it has failed", s.name)
		}
		if !sameNotes(first, second) {
			others++
		}
		for out := range p.Outs {
			for _, when := range grid(6) {
				a, e := change.At(len(p.Outs), out, first, when)
				b, also := change.At(len(p.Outs), out, second, when)
				if e != api.OK || also != api.OK {
					continue
				}
				if !sameCounts(a, b) {
					t.Fatalf("%s: out %d at %v: %s, and %s", s.name, out, when, brief(a), brief(b))
				}
				closed++
			}
		}
	}
	if closed < 1000 || others < 80 {
		t.Errorf("%d were closed, %d told other notes", closed, others)
	}
}

func TestNotesAtRandom(t *testing.T) { // P28.2: asked of an engine now and then: all changes once, each frontier that is another one than that of the call before, and a log
	came, moved := 0, 0
	for i := range 80 {
		x := chance(5000 + i)
		s := draw(&x, fmt.Sprint("plan ", i), drawPlan(&x, 3+x.below(9), 1+x.below(4)), 80)
		g := engine.New()
		var was [][]api.Time
		var all []api.Note
		for _, c := range s.cmds {
			if c.Do != api.CmdPoll { // what a poll tells Notes would not
				g.Do(c)
			}
			if x.below(4) > 0 {
				continue
			}
			more, now := script.Notes(was, g)
			all, was = append(all, more...), now
			for out, node := range s.p.Outs {
				if g.Flow() == nil {
					break
				}
				if frontier, _ := g.Flow().Frontier(node); !slices.Equal(frontier, now[out]) {
					t.Fatalf("%s: out %d: %v, want %v", s.name, out, now[out], frontier)
				}
			}
		}
		more, _ := script.Notes(was, g)
		all = append(all, more...)
		outs := len(s.p.Outs)
		if e, at := change.Check(outs, all); e != api.OK {
			t.Fatalf("%s: no log: error %d at %d", s.name, e, at)
		}
		for out := range outs {
			if got, want := ofOut(all, out), ofOut(s.told.Notes, out); !sameNotes(got, want) {
				t.Fatalf("%s: out %d: %s, want %s", s.name, out, brief(got), brief(want))
			}
			got, _ := change.Front(outs, out, all)
			if want, _ := change.Front(outs, out, s.told.Notes); !slices.Equal(got, want) {
				t.Fatalf("%s: out %d: %v, want %v", s.name, out, got, want)
			}
			came += len(ofOut(all, out))
		}
		for j, n := range all {
			if n.IsUp {
				continue
			}
			if before, _ := change.Front(outs, n.Out, all[:j]); slices.Equal(before, n.Front) {
				t.Fatalf("%s: note %d: a frontier that was noted", s.name, j)
			}
			moved++
		}
	}
	if came < 1000 || moved < 300 {
		t.Errorf("%d changes, %d frontiers", came, moved)
	}
}

// ofOut are the changes of an out.
func ofOut(l []api.Note, out int) []api.Note {
	return slices.DeleteFunc(slices.Clone(l), func(n api.Note) bool { return !n.IsUp || n.Out != out })
}

func FuzzScripts(f *testing.F) { // P28.1 to P28.4: bytes that are a script, and scripts that are drawn by bytes
	for i := range 30 {
		x := chance(8000 + i)
		_, b := draw(&x, "", drawPlan(&x, 3+x.below(7), 1+x.below(3)), 20).encoded()
		f.Add(b)
		var drawn []byte
		for range 100 + 10*i {
			drawn = append(drawn, byte(x.below(256)))
		}
		f.Add(drawn)
	}
	f.Fuzz(func(t *testing.T, b []byte) {
		if l, e, _ := wire.Decode(b); e != api.OK {
			runRefuses(t, "bytes", b)
		} else {
			runIs(t, "bytes", b, driven("", l).told)
		}
		x := &read{b}
		s := newSession("drawn")
		s.do(install(drawPlan(x, 3+x.below(8), 1+x.below(4))))
		for call := 0; len(x.left) > 0 && call < 100; call++ {
			s.do(s.drawCmd(x))
		}
		s.holdLog(t, s.hold(t).Notes)
		s.holdRun(t)
		s.means(t, s.told.Notes, grid(5))
	})
}

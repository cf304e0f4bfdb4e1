package script_test

import (
	"bytes"
	"fmt"
	"slices"
	"testing"

	"runnel/api"
	"runnel/change"
	"runnel/deno"
	"runnel/engine"
	"runnel/fault"
	"runnel/plan"
	"runnel/script"
	"runnel/wire"
)

// session is an engine that the test drives by itself, and what the test notes of it: by its flow, of which it asks all that came and each frontier; it polls nothing but where a command does.
type session struct {
	name     string
	g        *engine.Engine
	p        api.Plan // of no node, as long as none is installed
	cmds     []api.Cmd
	told     api.Told
	ends     []end
	seen     []int            // out by out, how many changes were noted
	fronts   [][]api.Time     // out by out, the frontier that was noted last
	inserted map[int][]api.Up // into inputs: those that were taken
}

// end is how many notes and peeks there were behind a command.
type end struct{ notes, peeks int }

func newSession(name string) *session {
	return &session{name: name, g: engine.New(), inserted: map[int][]api.Up{}}
}

// driven is a session behind commands.
func driven(name string, l []api.Cmd) *session {
	s := newSession(name)
	for _, c := range l {
		s.do(c)
	}
	return s
}

func (s *session) do(c api.Cmd) api.Errno {
	s.cmds = append(s.cmds, copiedCmd(c))
	reply, err := s.g.Do(copiedCmd(c))
	code := fault.Code(err)
	s.told.Codes = append(s.told.Codes, code)
	switch {
	case err != nil:
	case c.Do == api.CmdInstall:
		s.begin()
	case c.Do == api.CmdInsert:
		s.inserted[c.Node] = append(s.inserted[c.Node], copiedCmd(c).Up)
	case c.Do == api.CmdPeek:
		s.told.Peeks = append(s.told.Peeks, reply.Counts)
	}
	if len(s.p.Nodes) > 0 && s.g.Failed() == nil {
		s.note()
	}
	s.ends = append(s.ends, end{len(s.told.Notes), len(s.told.Peeks)})
	return code
}

// begin: a plan is installed.
func (s *session) begin() {
	s.p, _ = s.g.Plan()
	s.seen = make([]int, len(s.p.Outs))
	s.fronts = many(len(s.p.Outs), times(pair(0, 0)))
}

// note: out by out the changes that came since, and the frontier, if it is another one.
func (s *session) note() {
	for out, node := range s.p.Outs {
		all, _ := s.g.Flow().Out(out)
		for _, u := range all[s.seen[out]:] {
			s.told.Notes = append(s.told.Notes, came(out, u.Row, u.Time.Epoch, u.Time.Round, u.Diff))
		}
		s.seen[out] = len(all)
		frontier, _ := s.g.Flow().Frontier(node)
		if !slices.Equal(frontier, s.fronts[out]) {
			s.told.Notes = append(s.told.Notes, upTo(out, slices.Clone(frontier)...))
			s.fronts[out] = frontier
		}
	}
}

// failed: by which error; OK: it has not.
func (s *session) failed() api.Errno { return s.g.Flow().Failed() }

// cut is what was told by the first commands.
func (s *session) cut(many int) api.Told {
	if many == 0 {
		return api.Told{}
	}
	at := s.ends[many-1]
	return api.Told{Notes: s.told.Notes[:at.notes], Codes: s.told.Codes[:many], Peeks: s.told.Peeks[:at.peeks]}
}

// hold asks that the commands, played, tell what the session noted; that.
func (s *session) hold(t *testing.T) api.Told {
	t.Helper()
	told := script.Play(s.cmds)
	if bad := difference(told, s.told); bad != "" {
		t.Fatalf("%s: %s; behind %s", s.name, bad, brief(s.cmds))
	}
	return told
}

// holdLog asks that notes are a log of as many outs as the plan has, of which the last frontiers are those that there are.
func (s *session) holdLog(t *testing.T, log []api.Note) {
	t.Helper()
	outs := max(1, len(s.p.Outs))
	if e, at := change.Check(outs, log); e != api.OK || at != len(log) {
		t.Fatalf("%s: no log of %d outs: error %d at %d: %s", s.name, outs, e, at, brief(log[at]))
	}
	for out := range s.p.Outs {
		if last, e := change.Front(outs, out, log); e != api.OK || !slices.Equal(last, s.fronts[out]) {
			t.Fatalf("%s: out %d: the last frontier is %v, error %d, want %v", s.name, out, last, e, s.fronts[out])
		}
	}
}

// holdCuts asks that the script, cut behind each of its commands, tells a beginning of the same, which is a log, too.
func (s *session) holdCuts(t *testing.T) {
	t.Helper()
	for i := range len(s.cmds) + 1 {
		told := script.Play(s.cmds[:i])
		if bad := difference(told, s.cut(i)); bad != "" {
			t.Fatalf("%s: cut behind %d commands: %s", s.name, i, bad)
		}
		if e, at := change.Check(max(1, len(s.p.Outs)), told.Notes); e != api.OK {
			t.Fatalf("%s: cut behind %d commands: no log: error %d at %d", s.name, i, e, at)
		}
	}
}

// encoded is the script as bytes, without the commands that are never told so.
func (s *session) encoded() (l []api.Cmd, b []byte) {
	for _, c := range s.cmds {
		if wire.Check(c) == api.OK && len(l) < api.MaxCmds {
			l = append(l, c)
		}
	}
	b, e := wire.Encode(l)
	if e != api.OK {
		panic("a script that cannot be told")
	}
	return l, b
}

// holdRun asks that Run of the commands' bytes is Play of them.
func (s *session) holdRun(t *testing.T) {
	t.Helper()
	l, b := s.encoded()
	given := slices.Clone(b)
	told, e, at := script.Run(b)
	if e != api.OK || at != len(b) || !bytes.Equal(given, b) {
		t.Fatalf("%s: Run: error %d at %d of %d", s.name, e, at, len(b))
	}
	if bad := difference(told, script.Play(l)); bad != "" {
		t.Fatalf("%s: Run: %s", s.name, bad)
	}
	if bad := difference(told, driven("", l).told); bad != "" {
		t.Fatalf("%s: Run, held against a session: %s", s.name, bad)
	}
}

// lists is what was inserted, as deno asks for it.
func (s *session) lists() [][]api.Up {
	var l [][]api.Up
	for _, at := range plan.Inputs(s.p) {
		l = append(l, s.inserted[at])
	}
	return l
}

// means holds the log at times that are not in advance of an out's last frontier against what the plan makes of all that was taken; how often one was closed. A time at which the plan's own meaning is too great is left out.
func (s *session) means(t *testing.T, log []api.Note, l []api.Time) (closed int) {
	t.Helper()
	outs := len(s.p.Outs)
	for _, when := range l {
		want, meaning := deno.At(s.p, s.lists(), when)
		for out := range outs {
			last, _ := change.Front(outs, out, log)
			got, e := change.At(outs, out, log, when)
			if advanced(last, when) {
				if e != api.ErrOpen {
					t.Fatalf("%s: out %d at %v: error %d, though it is open", s.name, out, when, e)
				}
				continue
			}
			if meaning != api.OK {
				continue
			}
			if e != api.OK || !sameCounts(got, want[out]) {
				t.Fatalf("%s: out %d at %v: %s, error %d; the plan means %s", s.name, out, when, brief(got), e, brief(want[out]))
			}
			closed++
		}
	}
	return closed
}

// settle gives each node its turn, again and again, until all is quiet.
func (s *session) settle(t *testing.T, fuel int) {
	t.Helper()
	for round := 0; !s.g.Quiet() && s.failed() == api.OK; round++ {
		for at := range s.p.Nodes {
			s.do(step(at, fuel))
		}
		if round > 10000 {
			t.Fatalf("%s: it is never quiet", s.name)
		}
	}
}

// plays holds a script that is told by hand against what it must tell.
func plays(t *testing.T, name string, l []api.Cmd, want api.Told) {
	t.Helper()
	if bad := difference(script.Play(l), want); bad != "" {
		t.Fatalf("%s: %s", name, bad)
	}
	s := driven(name, l)
	s.holdLog(t, s.hold(t).Notes)
	s.holdCuts(t)
	s.holdRun(t)
}

// tells holds what is noted of an engine against what must be.
func tells(t *testing.T, name string, was [][]api.Time, g *engine.Engine, want []api.Note, then [][]api.Time) [][]api.Time {
	t.Helper()
	given := copiedFronts(was)
	got, now := script.Notes(was, g)
	if bad := firstOther("note", got, want, sameNote); bad != "" {
		t.Fatalf("%s: %s", name, bad)
	}
	if !sameFronts(now, then) {
		t.Fatalf("%s: the frontiers are %v, want %v", name, now, then)
	}
	if !sameFronts(was, given) {
		t.Fatalf("%s: what was handed in is changed: %v", name, was)
	}
	return now
}

// done is an engine that has done commands.
func done(t *testing.T, l ...api.Cmd) *engine.Engine {
	t.Helper()
	g := engine.New()
	for i, c := range l {
		if _, err := g.Do(c); err != nil {
			t.Fatalf("command %d: error %s", i, fmt.Sprint(fault.All(err)))
		}
	}
	return g
}

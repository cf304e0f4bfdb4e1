package journal_test

import (
	"fmt"
	"maps"
	"math/big"
	"slices"
	"testing"

	"runnel/api"
	"runnel/engine"
	"runnel/fault"
	"runnel/front"
	"runnel/journal"
	"runnel/moment"
	"runnel/plan"
	"runnel/row"
	"runnel/sheet"
	"runnel/wire"
	"runnel/zset"
)

// fullAt: so many changes a queue takes, and an out.
const fullAt = 1 << 16

// record is what a session's commands make of it, by the words of the chapters alone, without an engine.
type record struct {
	has     bool // is a plan installed?
	p       api.Plan
	kept    []api.Cmd
	came    map[int][]api.Up   // what was inserted, input by input
	fronts  map[int][]api.Time // of the inputs
	needed  map[int][]api.Time // of the arrangements: what they tell apart
	cut     map[int]bool       // the arrangements that were compacted
	failed  bool
	refused int
}

// recordOf is what commands, one by one, make of a session.
func recordOf(l []api.Cmd) *record {
	s := &record{came: map[int][]api.Up{}, fronts: map[int][]api.Time{}, needed: map[int][]api.Time{}, cut: map[int]bool{}}
	for _, c := range l {
		switch c.Do {
		case api.CmdStep, api.CmdPeek, api.CmdPoll:
			continue
		}
		if s.takes(c) {
			s.kept = append(s.kept, used(c))
		} else {
			s.refused++
		}
	}
	return s
}

// used is a command with the fields that it uses.
func used(c api.Cmd) api.Cmd {
	switch c.Do {
	case api.CmdInstall:
		return api.Cmd{Do: c.Do, Sheet: c.Sheet}
	case api.CmdInsert:
		return api.Cmd{Do: c.Do, Node: c.Node, Up: c.Up}
	}
	return api.Cmd{Do: c.Do, Node: c.Node, Front: c.Front}
}

// takes does a command, if it is one that is done.
func (s *record) takes(c api.Cmd) bool {
	if c.Do == api.CmdInstall {
		return !s.has && s.begins(c.Sheet)
	}
	if !s.has || s.failed || c.Node < 0 || c.Node >= len(s.p.Nodes) {
		return false
	}
	n := s.p.Nodes[c.Node]
	switch c.Do {
	case api.CmdInsert:
		return n.Kind == api.NodeInput && s.comes(c.Node, c.Up)
	case api.CmdAdvance:
		if n.Kind != api.NodeInput || !isGiven(c.Front) || !allows(s.fronts[c.Node], c.Front) {
			return false
		}
		s.fronts[c.Node] = c.Front
		return true
	case api.CmdCompact:
		if n.Kind != api.NodeArrange || !isGiven(c.Front) || !allows(s.needed[c.Node], c.Front) {
			return false
		}
		s.needed[c.Node], s.cut[c.Node] = c.Front, true
		return true
	}
	return false
}

// begins: an install.
func (s *record) begins(b []byte) bool {
	p, e := sheet.Decode(b)
	if e != api.OK {
		return false
	}
	if e, _ := plan.Check(p); e != api.OK {
		return false
	}
	s.has, s.p = true, p
	for at, n := range p.Nodes {
		switch n.Kind {
		case api.NodeInput:
			s.fronts[at] = times(pair(0, 0))
		case api.NodeArrange:
			s.needed[at] = times(pair(0, 0))
		}
	}
	return true
}

// comes: an insert at an input. One that is too many is refused, and with it all that comes behind.
func (s *record) comes(at int, u api.Up) bool {
	kinds := s.p.Nodes[at].Kinds
	if len(u.Row) != len(kinds) || u.Diff == 0 || !isTime(u.Time) || !advanced(s.fronts[at], u.Time) {
		return false
	}
	for i, v := range u.Row {
		if v.Kind != kinds[i] || v.Kind == text && len(v.Str) > 4096 {
			return false
		}
	}
	leads := slices.Contains(s.p.Outs, at) || slices.ContainsFunc(s.p.Nodes, func(n api.Node) bool { return slices.Contains(n.Ins, at) })
	if leads && len(s.came[at]) == fullAt {
		s.failed = true
		return false
	}
	s.came[at] = append(s.came[at], u)
	return true
}

func isTime(t api.Time) bool {
	return t.Epoch >= 0 && t.Round >= 0 && t.Epoch <= 1<<40 && t.Round <= 1<<40
}

// isGiven: may it be handed in as a frontier?
func isGiven(f []api.Time) bool { return len(f) <= 16 && isFrontier(f) }

func isFrontier(f []api.Time) bool {
	return !slices.ContainsFunc(f, func(t api.Time) bool { return !isTime(t) }) && slices.Equal(f, least(f))
}

// standsFor is the time that stands for another one, as chapter 5 has it.
func standsFor(f []api.Time, t api.Time) api.Time {
	var rep api.Time
	for i, u := range f {
		epoch, round := max(t.Epoch, u.Epoch), max(t.Round, u.Round)
		if i == 0 {
			rep = pair(epoch, round)
		}
		rep = pair(min(rep.Epoch, epoch), min(rep.Round, round))
	}
	return rep
}

// sinceFault: why the session may not be tidied at since.
func (s *record) sinceFault(since []api.Time) api.Errno {
	switch {
	case !s.has:
		return api.ErrNone
	case len(since) > 1024:
		return api.ErrMany
	case slices.ContainsFunc(since, func(t api.Time) bool { return !isTime(t) }):
		return api.ErrTime
	case !isFrontier(since):
		return api.ErrForm
	case len(since) == 0:
		return api.ErrArg
	}
	for _, f := range s.fronts {
		if !allows(since, f) {
			return api.ErrTime
		}
	}
	return api.OK
}

// tidied is what is left of the session, for times in advance of since.
func (s *record) tidied(since []api.Time) ([]api.Cmd, api.Errno) {
	if e := s.sinceFault(since); e != api.OK {
		return nil, e
	}
	l := s.kept[:1:1]
	for at := range s.p.Nodes {
		if s.p.Nodes[at].Kind != api.NodeInput {
			continue
		}
		sums, e := summed(s.came[at], since)
		if e != api.OK {
			return nil, e
		}
		for _, u := range sums {
			l = append(l, insert(at, u))
		}
	}
	for at := range s.p.Nodes {
		if f, is := s.fronts[at]; is && !slices.Equal(f, times(pair(0, 0))) {
			l = append(l, advance(at, f...))
		}
	}
	for at := range s.p.Nodes {
		if s.cut[at] {
			l = append(l, compact(at, s.needed[at]...))
		}
	}
	return l, api.OK
}

// summed are changes, each at the time that stands for its own, those of a row and a time as one.
func summed(l []api.Up, since []api.Time) ([]api.Up, api.Errno) {
	bound := map[string]int{}
	var sums []api.Up
	for _, u := range l {
		u.Time = standsFor(since, u.Time)
		name := fmt.Sprint(u.Time)
		for _, v := range u.Row {
			if v.Kind == num {
				name += fmt.Sprintf(" %d", v.Int)
			} else {
				name += fmt.Sprintf(" %q", v.Str)
			}
		}
		i, there := bound[name]
		if !there {
			bound[name] = len(sums)
			sums = append(sums, u)
			continue
		}
		sum := new(big.Int).Add(big.NewInt(int64(sums[i].Diff)), big.NewInt(int64(u.Diff)))
		if !sum.IsInt64() {
			return nil, api.ErrOver
		}
		sums[i].Diff = int(sum.Int64())
	}
	sums = slices.DeleteFunc(sums, func(u api.Up) bool { return u.Diff == 0 })
	slices.SortFunc(sums, func(a, b api.Up) int {
		if order := row.Order(a.Row, b.Row); order != 0 {
			return order
		}
		return moment.Order(a.Time, b.Time)
	})
	return sums, api.OK
}

// hold asks all four functions about a session, and holds what they tell against the record of it and against an engine that is handed just what lasts.
func hold(t *testing.T, name string, l []api.Cmd, sinces ...[]api.Time) *record {
	t.Helper()
	s := recordOf(l)
	kept := journal.Keep(l)
	if bad := difference(kept, s.kept); bad != "" {
		t.Fatalf("%s: Keep: %s; of %s", name, bad, brief(l))
	}
	done, g := oneByOne(l)
	if bad := difference(kept, done); bad != "" {
		t.Fatalf("%s: Keep, by an engine: %s; of %s", name, bad, brief(l))
	}
	s.holdFronts(t, name, l, g)
	s.holdRestore(t, name, l)
	for _, since := range sinces {
		s.holdTidy(t, name, l, since)
	}
	return s
}

// oneByOne are those commands that an engine, which is handed just what lasts, does, and that engine.
func oneByOne(l []api.Cmd) ([]api.Cmd, *engine.Engine) {
	g := engine.New()
	var done []api.Cmd
	for _, c := range l {
		if c.Do != api.CmdInstall && c.Do != api.CmdInsert && c.Do != api.CmdAdvance && c.Do != api.CmdCompact {
			continue
		}
		if _, err := g.Do(copiedCmd(c)); err == nil {
			done = append(done, wire.Plain(c))
		}
	}
	return done, g
}

func (s *record) holdFronts(t *testing.T, name string, l []api.Cmd, g *engine.Engine) {
	t.Helper()
	got, e := journal.Fronts(l)
	if !s.has {
		if e != api.ErrNone || len(got) != 0 {
			t.Fatalf("%s: Fronts: %v, error %d, want ErrNone", name, got, int(e))
		}
		return
	}
	if e != api.OK || !maps.EqualFunc(got, s.fronts, slices.Equal[[]api.Time]) {
		t.Fatalf("%s: Fronts: %v, error %d, want %v; of %s", name, got, int(e), s.fronts, brief(l))
	}
	for at, f := range got {
		if want, e := g.Flow().Frontier(at); e != api.OK || !slices.Equal(f, want) {
			t.Fatalf("%s: Fronts: of input %d %v, of an engine %v", name, at, f, want)
		}
	}
}

func (s *record) holdRestore(t *testing.T, name string, l []api.Cmd) {
	t.Helper()
	g, e := journal.Restore(l)
	if !s.has {
		if e != api.ErrNone || g != nil {
			t.Fatalf("%s: Restore: error %d, want ErrNone", name, int(e))
		}
		return
	}
	if e != api.OK || g.Failed() != nil {
		t.Fatalf("%s: Restore: error %d; failed %v", name, int(e), g.Failed())
	}
	if p, has := g.Plan(); !has || !sheet.Same(p, s.p) {
		t.Fatalf("%s: Restore: the plan is %v", name, p)
	}
	want := engine.New()
	for _, c := range s.kept {
		if _, err := want.Do(c); err != nil {
			t.Fatalf("%s: of what is kept %s is refused: %d", name, brief(c), int(fault.Code(err)))
		}
	}
	holdAlike(t, name+": Restore", g, want)
	for at, f := range s.fronts {
		if got, e := g.Flow().Frontier(at); e != api.OK || !slices.Equal(got, f) {
			t.Fatalf("%s: Restore: the frontier of input %d is %v, want %v", name, at, got, f)
		}
	}
}

// holdAlike holds what can be seen of two engines with one plan against each other.
func holdAlike(t *testing.T, name string, got, want *engine.Engine) {
	t.Helper()
	p, _ := want.Plan()
	for i := range p.Outs {
		a, _ := got.Flow().Out(i)
		b, _ := want.Flow().Out(i)
		if !zset.Same(a, b) {
			t.Fatalf("%s: out %d: %s, want %s", name, i, brief(a), brief(b))
		}
	}
	for at := range p.Nodes {
		a, _ := got.Flow().Frontier(at)
		b, _ := want.Flow().Frontier(at)
		if !slices.Equal(a, b) {
			t.Fatalf("%s: the frontier of node %d: %v, want %v", name, at, a, b)
		}
		if p.Nodes[at].Kind != api.NodeArrange {
			continue
		}
		a, b = got.Flow().Spines(at)[0].Since(), want.Flow().Spines(at)[0].Since()
		if !slices.Equal(a, b) {
			t.Fatalf("%s: arrangement %d was compacted to %v, want %v", name, at, a, b)
		}
	}
	waiting, stored := got.Flow().Load()
	if a, b := want.Flow().Load(); a != waiting || b != stored {
		t.Fatalf("%s: %d wait, %d are stored; want %d, %d", name, waiting, stored, a, b)
	}
}

// holdTidy holds Tidy at since against the record, and against zset's words of what was inserted.
func (s *record) holdTidy(t *testing.T, name string, l []api.Cmd, since []api.Time) []api.Cmd {
	t.Helper()
	name = fmt.Sprintf("%s: Tidy at %s", name, brief(since))
	want, fault := s.tidied(since)
	got, e := journal.Tidy(l, since)
	if e != fault || e != api.OK && got != nil {
		t.Fatalf("%s: error %d, want %d; %s of %s", name, int(e), int(fault), brief(got), brief(l))
	}
	if bad := difference(got, want); bad != "" {
		t.Fatalf("%s: %s; of %s", name, bad, brief(l))
	}
	if e != api.OK {
		return nil
	}
	of := func(at int) []api.Up {
		var ups []api.Up
		for _, c := range got {
			if c.Do == api.CmdInsert && c.Node == at {
				ups = append(ups, c.Up)
			}
		}
		return ups
	}
	for at := range s.fronts {
		sums, _ := zset.Consolidate(zset.Advance(s.came[at], since))
		if !zset.Same(of(at), sums) || !slices.IsSortedFunc(of(at), zset.Order) {
			t.Fatalf("%s: of input %d %s, want %s", name, at, brief(of(at)), brief(sums))
		}
	}
	s.holdAgain(t, name, got, since)
	return got
}

// holdAgain asks that what was tidied, tidied again, stays, and kept, too; that it has no more inserts, and the same frontiers.
func (s *record) holdAgain(t *testing.T, name string, tidied []api.Cmd, since []api.Time) {
	t.Helper()
	again, e := journal.Tidy(tidied, since)
	if bad := difference(again, tidied); e != api.OK || bad != "" {
		t.Fatalf("%s: again: error %d: %s", name, int(e), bad)
	}
	if bad := difference(journal.Keep(tidied), tidied); bad != "" {
		t.Fatalf("%s: kept: %s", name, bad)
	}
	if inserts(tidied) > inserts(s.kept) || len(tidied) > len(s.kept) {
		t.Fatalf("%s: %d commands of %d, %d inserts of %d", name, len(tidied), len(s.kept), inserts(tidied), inserts(s.kept))
	}
	if f, e := journal.Fronts(tidied); e != api.OK || !maps.EqualFunc(f, s.fronts, front.Same) {
		t.Fatalf("%s: Fronts: %v, error %d, want %v", name, f, int(e), s.fronts)
	}
}

func inserts(l []api.Cmd) int {
	n := 0
	for _, c := range l {
		if c.Do == api.CmdInsert {
			n++
		}
	}
	return n
}

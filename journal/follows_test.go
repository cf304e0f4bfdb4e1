package journal_test

import (
	"fmt"
	"slices"
	"testing"

	"runnel/api"
	"runnel/deno"
	"runnel/engine"
	"runnel/fault"
	"runnel/journal"
	"runnel/plan"
	"runnel/zset"
)

// settle gives each node its turns, again and again, until all is quiet; false: it has failed.
func settle(t *testing.T, name string, g *engine.Engine, fuel int) bool {
	t.Helper()
	p, _ := g.Plan()
	for range 100000 {
		if g.Quiet() {
			return true
		}
		for at := range p.Nodes {
			if _, err := g.Do(step(at, fuel)); err != nil {
				return false
			}
		}
	}
	t.Fatalf("%s: it is not quiet", name)
	return false
}

// isClosed: may nothing come to an out at a time any more?
func isClosed(g *engine.Engine, out int, when api.Time) bool {
	p, _ := g.Plan()
	f, _ := g.Flow().Frontier(p.Outs[out])
	return !advanced(f, when)
}

// there is what came to an out until a time, together.
func there(t *testing.T, name string, g *engine.Engine, out int, when api.Time) []api.Count {
	t.Helper()
	l, e := g.Flow().Out(out)
	if e != api.OK {
		t.Fatalf("%s: out %d: error %d", name, out, int(e))
	}
	has, e := zset.At(l, when)
	if e != api.OK {
		t.Fatalf("%s: out %d at %v: error %d", name, out, when, int(e))
	}
	return has
}

// sameOuts holds two engines that are settled against one another: at each closed time of a grid that is in advance of since the same in all outs; how many those were, and in how many something was.
func sameOuts(t *testing.T, name string, got, want *engine.Engine, since []api.Time, most int) (asked, some int) {
	t.Helper()
	p, _ := want.Plan()
	for out, node := range p.Outs {
		a, _ := got.Flow().Frontier(node)
		b, _ := want.Flow().Frontier(node)
		if !slices.Equal(a, b) {
			t.Fatalf("%s: the frontier of out %d is %v, want %v", name, out, a, b)
		}
		for _, when := range grid(most) {
			if !isClosed(want, out, when) || !advanced(since, when) {
				continue
			}
			a, b := there(t, name, got, out, when), there(t, name, want, out, when)
			if !sameCounts(a, b) {
				t.Fatalf("%s: out %d at %v: %s, want %s", name, out, when, brief(a), brief(b))
			}
			asked++
			if len(b) > 0 {
				some++
			}
		}
	}
	return asked, some
}

// samePeeks holds what is told of all arrangements, at times in advance of since, against one another; how many were told.
func samePeeks(t *testing.T, name string, got, want *engine.Engine, since []api.Time, most int) (told int) {
	t.Helper()
	p, _ := want.Plan()
	for _, at := range ofKind(p, api.NodeArrange) {
		for _, when := range grid(most) {
			if !advanced(since, when) {
				continue
			}
			a, err := got.Do(peek(at, when))
			b, fail := want.Do(peek(at, when))
			if fault.Code(err) != fault.Code(fail) || !sameCounts(a.Counts, b.Counts) {
				t.Fatalf("%s: arrangement %d at %v: %s, error %d, want %s, error %d", name, at, when, brief(a.Counts), int(fault.Code(err)), brief(b.Counts), int(fault.Code(fail)))
			}
			if err == nil {
				told++
			}
		}
	}
	return told
}

// means holds the outs of an engine that is settled against what the plan makes of all that was inserted.
func (s *record) means(t *testing.T, name string, g *engine.Engine, most int) {
	t.Helper()
	var came [][]api.Up
	for _, in := range plan.Inputs(s.p) {
		came = append(came, s.came[in])
	}
	for _, when := range grid(most) {
		want, e := deno.At(s.p, came, when)
		if e != api.OK {
			t.Fatalf("%s: error %d", name, int(e))
		}
		for out := range s.p.Outs {
			if isClosed(g, out, when) && !sameCounts(there(t, name, g, out, when), want[out]) {
				t.Fatalf("%s: out %d at %v: %s, want %s", name, out, when, brief(there(t, name, g, out, when)), brief(want[out]))
			}
		}
	}
}

// tally is how much of what follows was asked.
type tally struct{ asked, some, told, shorter int }

// follows holds a session that is drawn, begun anew from what was kept of it, and from what was tidied, against itself.
func follows(t *testing.T, x source, s *drawn, most int, sum *tally) {
	t.Helper()
	was := recordOf(s.cmds)
	if !settle(t, s.name, s.g, anyOf(x, 3, 1000)) {
		t.Fatalf("%s: it has failed", s.name)
	}
	kept := journal.Keep(s.cmds)
	g := restored(t, s.name, kept)
	settle(t, s.name, g, anyOf(x, 1, 3, 1000))
	asked, some := sameOuts(t, s.name+": kept", g, s.g, times(zero), most)
	sum.asked, sum.some = sum.asked+asked, sum.some+some
	sum.told += samePeeks(t, s.name+": kept", g, s.g, times(zero), most)
	was.means(t, s.name+": kept", g, most)
	if bad := difference(journal.Keep(kept), kept); bad != "" {
		t.Fatalf("%s: kept again: %s", s.name, bad)
	}
	for range 3 {
		since := drawSince(x, was.fronts)
		name := fmt.Sprintf("%s: tidied at %v", s.name, since)
		tidied, e := journal.Tidy(s.cmds, since)
		if e != api.OK {
			t.Fatalf("%s: error %d", name, int(e))
		}
		was.holdAgain(t, name, tidied, since)
		g := restored(t, name, tidied)
		settle(t, name, g, anyOf(x, 1, 3, 1000))
		asked, some := sameOuts(t, name, g, s.g, since, most)
		sum.asked, sum.some = sum.asked+asked, sum.some+some
		sum.told += samePeeks(t, name, g, s.g, since, most)
		if inserts(tidied) < inserts(kept) {
			sum.shorter++
		}
	}
}

func restored(t *testing.T, name string, l []api.Cmd) *engine.Engine {
	t.Helper()
	g, e := journal.Restore(l)
	if e != api.OK || g.Failed() != nil {
		t.Fatalf("%s: Restore: error %d, failed %v", name, int(e), g.Failed())
	}
	return g
}

func TestBegunAnew(t *testing.T) { // P33.4: at each closed time the same in all outs, of what was kept; of what was tidied at each such time in advance of since; kept and tidied again, they stay
	var sum tally
	kinds := make([]int, api.Nodes)
	for i := range 250 {
		x := chance(3000 + i)
		s := draw(&x, fmt.Sprintf("session %d", i), drawPlan(&x, 1+i%4, 3+x.below(8)), 20+x.below(50))
		follows(t, &x, s, 7, &sum)
		for _, n := range s.p.Nodes {
			kinds[n.Kind]++
		}
	}
	if slices.Min(kinds) < 15 || sum.asked < 10000 || sum.some < 3000 || sum.told < 1000 || sum.shorter < 200 {
		t.Errorf("kinds %v, %+v", kinds, sum)
	}
}

func TestBegunAnewAndOn(t *testing.T) { // P33.4: a session that goes on behind what was tidied comes to the same as one that was never cut
	asked, some := 0, 0
	for i := range 80 {
		x := chance(4000 + i)
		s := draw(&x, fmt.Sprintf("session %d", i), drawPlan(&x, 1+i%3, 3+x.below(6)), 30)
		since := drawSince(&x, recordOf(s.cmds).fronts)
		l, e := journal.Tidy(s.cmds, since)
		if e != api.OK {
			t.Fatalf("%s: error %d", s.name, int(e))
		}
		g := restored(t, s.name, l)
		first := len(s.cmds)
		for range 30 {
			s.do(s.drawCmd(&x))
		}
		for _, c := range s.cmds[first:] {
			g.Do(copiedCmd(c))
		}
		if !settle(t, s.name, s.g, 1000) || !settle(t, s.name, g, 3) {
			t.Fatalf("%s: it has failed", s.name)
		}
		n, m := sameOuts(t, fmt.Sprintf("%s: since %v", s.name, since), g, s.g, since, 8)
		asked, some = asked+n, some+m
	}
	if asked < 1000 || some < 300 {
		t.Errorf("%d asked, in %d something was", asked, some)
	}
}

func TestTidiedLater(t *testing.T) { // P33.4: tidied at a since, then at a later one, it is as tidied there at once, where no sum is too great
	for i := range 200 {
		x := chance(5000 + i)
		s := draw(&x, fmt.Sprintf("session %d", i), drawPlan(&x, 1+i%4, 4), 60)
		f := recordOf(s.cmds).fronts
		later := drawSince(&x, f)
		var early []api.Time
		for _, when := range later {
			early = append(early, pair(max(0, when.Epoch-x.below(3)), max(0, when.Round-x.below(3))))
		}
		first, e := journal.Tidy(s.cmds, least(early))
		if e != api.OK {
			t.Fatalf("%s: error %d", s.name, int(e))
		}
		a, e := journal.Tidy(first, later)
		b, fault := journal.Tidy(s.cmds, later)
		if bad := difference(a, b); e != api.OK || fault != api.OK || bad != "" {
			t.Fatalf("%s: at %v, then at %v: errors %d, %d: %s", s.name, early, later, int(e), int(fault), bad)
		}
	}
}

func FuzzJournals(f *testing.F) { // P33.1 to P33.4: plans and sessions that are drawn by bytes
	for i := range 8 {
		x := chance(6000 + i)
		b := make([]byte, 400)
		for j := range b {
			b[j] = byte(x.below(256))
		}
		f.Add(b)
	}
	f.Fuzz(func(t *testing.T, b []byte) {
		x := &read{b}
		s := draw(x, "drawn by bytes", drawPlan(x, 1+x.below(3), 1+x.below(7)), min(len(b)/8, 60))
		was := recordOf(s.cmds)
		hold(t, s.name, s.cmds, times(zero), drawSince(x, was.fronts), times(pair(x.below(5), x.below(5))))
		var sum tally
		follows(t, x, s, 5, &sum)
	})
}

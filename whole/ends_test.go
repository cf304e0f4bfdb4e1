package whole_test

import (
	"fmt"
	"slices"
	"testing"

	"runnel/api"
	"runnel/engine"
	"runnel/flow"
	"runnel/journal"
	"runnel/plan"
	"runnel/settle"
)

// leads are the inputs that lead to a node.
func leads(p api.Plan, at int) []int {
	var l []int
	for from := range p.Nodes {
		if p.Nodes[from].Kind == api.NodeInput && reaches(p, from, at) {
			l = append(l, from)
		}
	}
	return l
}

// reaches: does one come from a node to another one, going from a node's Ins to it?
func reaches(p api.Plan, from, to int) bool {
	return from == to || slices.ContainsFunc(p.Nodes[to].Ins, func(in int) bool { return reaches(p, from, in) })
}

// rests holds a flow that is quiet against what that is.
func rests(t *testing.T, name string, p api.Plan, f *flow.Flow) {
	t.Helper()
	if waiting, _ := f.Load(); waiting != 0 || !f.Quiet() || f.Failed() != api.OK {
		t.Fatalf("%s: %d wait; quiet: %v; failed: %d", name, waiting, f.Quiet(), int(f.Failed()))
	}
	for at := range p.Nodes {
		var all []api.Time
		for _, in := range leads(p, at) {
			own, _ := f.Frontier(in)
			all = append(all, own...)
		}
		if frontier, _ := f.Frontier(at); !slices.Equal(frontier, least(all)) {
			t.Fatalf("%s: the frontier of node %d is %v, want %v", name, at, frontier, least(all))
		}
		for _, s := range f.Spines(at) {
			if !s.Still() || len(s.Batches()) > 1 {
				t.Fatalf("%s: a merge goes on at node %d: %d batches", name, at, len(s.Batches()))
			}
		}
		if left, e := f.Step(at, 1000); left != 1000 || e != api.OK {
			t.Fatalf("%s: node %d does something: %d are left, error %d", name, at, left, int(e))
		}
	}
}

// inserted: how many changes were.
func (s *life) inserted() (many int) {
	for _, l := range s.came {
		many += len(l)
	}
	return many
}

func TestRestWithinTheBound(t *testing.T) { // E4: of a script, with its turns and without any, brought to rest within as many steps as are told ahead
	kinds, steps := make([]int, api.Nodes), 0
	for i := range 70 {
		_, s := drawLife(t, 15000+i, 9, 50, drawDiff)
		bound, e := settle.Bound(s.p, s.inserted())
		if e != api.OK {
			t.Fatalf("%s: error %d", s.name, int(e))
		}
		for at, l := range [][]api.Cmd{s.cmds, journal.Keep(s.cmds), append(journal.Keep(s.cmds), closing(s.p, 0)...)} {
			g := engine.New()
			for _, c := range l {
				g.Do(c)
			}
			n, quiet, e := settle.Settle(g.Flow(), len(s.p.Nodes), bound)
			if e != api.OK || !quiet || n > bound {
				t.Fatalf("%s: way %d: %d steps of %d, quiet: %v, error %d", s.name, at, n, bound, quiet, int(e))
			}
			steps += n
			rests(t, s.name, s.p, g.Flow())
		}
		for _, n := range s.p.Nodes {
			kinds[n.Kind]++
		}
	}
	if slices.Min(kinds) < 10 || steps < 10000 {
		t.Errorf("kinds %v, %d steps", kinds, steps)
	}
}

func TestEachNodeInTurn(t *testing.T) { // E4: in any order of nodes, with fuel 1 and more, by commands: no more of these than the bound tells; then nothing comes any more, and all that was closed is complete
	rounds := 0
	for i := range 100 {
		x, s := drawLife(t, 16000+i, 9, 40, drawDiff)
		d := drive(s.name, s.p)
		for _, c := range append(journal.Keep(s.cmds)[1:], anyOf(x, closing(s.p, 0), nil)...) {
			d.do(c)
		}
		var order []int
		for at := range s.p.Nodes {
			order = append(order, at)
		}
		order = shuffled(x, order)
		bound, _ := settle.Bound(s.p, s.inserted())
		for n := 0; !d.g.Quiet(); n++ {
			at := order[n%len(order)]
			if _, err := d.do(step(at, anyOf(x, 1, 1, 2, 7, 1000))); err != nil || n >= bound {
				t.Fatalf("%s: step %d of %d: %v", s.name, n, bound, err)
			}
			rounds++
		}
		rests(t, s.name, s.p, d.g.Flow())
		before := d.seen()
		for range 2 * len(order) {
			d.do(step(anyOf(x, order...), anyOf(x, 1, 100)))
		}
		if d.seen() != before {
			t.Fatalf("%s: it was quiet, and yet something has changed", s.name)
		}
	}
	if rounds < 4000 {
		t.Errorf("only %d steps", rounds)
	}
}

func TestNothingToDo(t *testing.T) { // E4: of no inserts at all, and of inputs that are closed at once
	for i := range 60 {
		x := chance(17000 + i)
		p := drawPlan(&x, 3+x.below(9))
		d := drive(fmt.Sprintf("plan %d", i), p)
		rests(t, d.name, p, d.g.Flow())
		for _, in := range plan.Inputs(p) {
			d.do(advance(in, pair(x.below(3), x.below(3))))
			rests(t, d.name, p, d.g.Flow())
		}
		for _, in := range plan.Inputs(p) {
			d.do(advance(in))
		}
		rests(t, d.name, p, d.g.Flow())
		bound, e := settle.Bound(p, 0)
		if n, quiet, f := settle.Settle(d.g.Flow(), len(p.Nodes), bound); n != 0 || !quiet || e != api.OK || f != api.OK {
			t.Fatalf("%s: %d steps, quiet: %v, errors %d, %d", d.name, n, quiet, int(e), int(f))
		}
	}
}

package flow_test

import (
	"fmt"
	"slices"
	"testing"

	"runnel/api"
	"runnel/deno"
	"runnel/flow"
	"runnel/front"
	"runnel/moment"
	"runnel/plan"
	"runnel/zset"
)

func TestAtRandom(t *testing.T) { // P24.2 to P24.9: plans and calls that are drawn: each answer, and what there is at closed times
	kinds := make([]int, api.Nodes)
	closed, failed := 0, 0
	for i := range 250 {
		x := chance(i)
		p := drawPlan(&x, 3+x.below(9))
		for _, n := range p.Nodes {
			kinds[n.Kind]++
		}
		w := watch(t, fmt.Sprintf("plan %d, %+v", i, p), p)
		for call := range 60 {
			w.anyCall(&x)
			w.hold(fmt.Sprint("call ", call))
			if call%20 == 19 {
				closed += w.means(grid(8))
			}
		}
		if w.m.failed != api.OK {
			failed++
			continue
		}
		w.settle(anyOf(&x, 1, 1, 2, 5))
		closed += w.means(grid(8))
		for _, in := range plan.Inputs(p) {
			w.advance(in, nil)
		}
		w.settle(anyOf(&x, 1, 3, 1000))
		if got := w.means(grid(8)); got != 64*len(p.Outs) {
			t.Fatalf("%s: %d closed", w.name, got)
		}
	}
	for kind, many := range kinds {
		if many < 40 {
			t.Errorf("kind %d came only %d times", kind, many)
		}
	}
	if closed < 30000 || failed > 5 {
		t.Errorf("%d were closed, %d failed", closed, failed)
	}
}

// ask is a call by which something comes from outside: an insert, or an advance.
type ask struct {
	at int
	u  api.Up
	l  []api.Time
	is bool // an insert
}

// drawAsks are calls that a flow of a plan takes, and the frontiers behind them.
func drawAsks(x source, p api.Plan, many int) []ask {
	fronts := map[int][]api.Time{}
	inputs := plan.Inputs(p)
	for _, in := range inputs {
		fronts[in] = times(pair(0, 0))
	}
	var l []ask
	for range many {
		at := anyOf(x, inputs...)
		if x.below(4) == 0 {
			fronts[at] = drawFurther(x, fronts[at])
			l = append(l, ask{at: at, l: fronts[at]})
			continue
		}
		if len(fronts[at]) == 0 {
			continue
		}
		l = append(l, ask{at: at, is: true, u: api.Up{Row: drawRow(x, p.Nodes[at].Kinds), Time: drawTime(x, fronts[at]), Diff: anyOf(x, 1, 1, 2, -1)}})
	}
	return l
}

func (k ask) do(t *testing.T, f *flow.Flow) {
	t.Helper()
	e := api.OK
	if k.is {
		e = f.Insert(k.at, k.u)
	} else {
		e = f.Advance(k.at, k.l)
	}
	if e != api.OK {
		t.Fatalf("%+v: error %d", k, int(e))
	}
}

// comes is what came to an out at a time, if that is closed.
func comes(t *testing.T, f *flow.Flow, p api.Plan, i int, at api.Time) (there []api.Count, closed bool) {
	t.Helper()
	frontier, _ := f.Frontier(p.Outs[i])
	if front.Ahead(frontier, at) {
		return nil, false
	}
	l, _ := f.Out(i)
	there, e := zset.At(l, at)
	if e != api.OK {
		t.Fatalf("At: error %d", int(e))
	}
	return there, true
}

func TestWhoeverHasATurn(t *testing.T) { // P24.6: the same inserts and advances, other turns, fuel and compactions: at each time that is closed in both the same
	alike := 0
	for i := range 120 {
		x := chance(1000 + i)
		p := drawPlan(&x, 3+x.below(9))
		asks := drawAsks(&x, p, 40)
		var flows []*flow.Flow
		for turn := range 4 {
			p := copiedPlan(p)
			if turn == 3 {
				p.Room = api.MaxRoom
			}
			f, _ := flow.New(p)
			y := chance(turn)
			for _, k := range asks {
				k.do(t, f)
				for range y.below(6) * turn {
					f.Step(y.below(len(p.Nodes)), []int{1, 3, 100}[turn%3])
					if at := y.below(len(p.Nodes)); turn == 2 && p.Nodes[at].Kind == api.NodeArrange {
						f.Compact(at, times(pair(y.below(4), y.below(4))))
					}
				}
			}
			flows = append(flows, f)
		}
		for round := range 3 {
			alike += alikeAt(t, fmt.Sprintf("plan %d, %+v", i, p), p, flows)
			for turn, f := range flows {
				for range 20 * round * (turn + 1) {
					for at := range p.Nodes {
						f.Step(at, 1+turn)
					}
				}
			}
		}
	}
	if alike < 20000 {
		t.Errorf("only %d were held against each other", alike)
	}
}

// alikeAt holds flows against each other at times that are closed in two of them.
func alikeAt(t *testing.T, name string, p api.Plan, flows []*flow.Flow) (alike int) {
	t.Helper()
	for _, f := range flows {
		if f.Failed() != api.OK {
			return 0
		}
	}
	for i := range p.Outs {
		for _, at := range grid(7) {
			var first []api.Count
			some := false
			for _, f := range flows {
				there, closed := comes(t, f, p, i, at)
				switch {
				case closed && some:
					alike++
					if !slices.EqualFunc(there, first, sameCount) {
						t.Fatalf("%s: out %d at %v: %v and %v", name, i, at, there, first)
					}
				case closed:
					first, some = there, true
				}
			}
		}
	}
	return alike
}

func TestInsertsInAnotherOrder(t *testing.T) { // P24.6: the order of inserts between advances plays no part
	for i := range 60 {
		x := chance(2000 + i)
		p := drawPlan(&x, 3+x.below(8))
		asks := drawAsks(&x, p, 30)
		var flows []*flow.Flow
		for turn := range 3 {
			f, _ := flow.New(p)
			var wait []ask
			for _, k := range append(slices.Clone(asks), ask{at: plan.Inputs(p)[0], l: nil}) {
				if k.is {
					wait = append(wait, k)
					continue
				}
				for len(wait) > 0 {
					next := []int{0, len(wait) - 1, len(wait) / 2}[turn]
					wait[next].do(t, f)
					wait = slices.Delete(wait, next, next+1)
				}
				k.do(t, f)
			}
			for _, in := range plan.Inputs(p) {
				f.Advance(in, nil)
			}
			for !f.Quiet() && f.Failed() == api.OK {
				for at := range p.Nodes {
					f.Step(at, 1+turn)
				}
			}
			flows = append(flows, f)
		}
		alikeAt(t, fmt.Sprintf("plan %d, %+v", i, p), p, flows)
	}
}

func TestUpToAFailure(t *testing.T) { // P24.6, P24.7: of numbers that are too great soon or late; at the frontiers that were told ahead of it
	failed, closed := map[api.Errno]int{}, 0
	for i := range 300 {
		x := chance(3000 + i)
		p := drawPlan(&x, 3+x.below(9))
		w := watch(t, fmt.Sprintf("plan %d, %+v", i, p), p)
		for call := 0; call < 100 && w.m.failed == api.OK; call++ {
			in := anyOf(&x, w.m.ofKind(api.NodeInput)...)
			switch {
			case call > 30 && x.below(3) == 0:
				w.step(x.below(len(p.Nodes)), 20)
			case call > 30 && x.below(3) == 0:
				u := api.Up{Row: drawRow(&x, p.Nodes[in].Kinds), Time: drawTime(&x, w.m.fronts[in]), Diff: anyOf(&x, high, low, 1<<62, -1<<62, 1<<40)}
				for j, kind := range p.Nodes[in].Kinds {
					if kind == num && x.below(2) == 0 {
						u.Row[j].Int = anyOf(&x, low, high, 1<<62)
					}
				}
				w.insert(in, u)
			default:
				w.anyCall(&x)
			}
			w.hold(fmt.Sprint("call ", call))
		}
		if w.m.failed == api.OK {
			continue
		}
		failed[w.m.failed]++
		closed += w.means(grid(8))
		w.hasFailed(w.m.failed)
		closed += w.means(grid(8))
	}
	if failed[api.ErrOver] < 50 || closed < 500 {
		t.Errorf("%v failed, %d were closed", failed, closed)
	}
}

func TestFrontiersNeverGoBack(t *testing.T) { // P24.7: over long rows of calls; what comes is in advance of the frontier that was told ahead
	for i := range 6 {
		x := chance(4000 + i)
		p := drawPlan(&x, 8+x.below(5))
		w := watch(t, fmt.Sprintf("plan %d, %+v", i, p), p)
		for call := range 500 {
			if call%3 == 0 {
				w.step(x.below(len(p.Nodes)), 1)
			} else {
				w.anyCall(&x)
			}
			w.hold(fmt.Sprint("call ", call))
			if w.m.failed != api.OK {
				break
			}
		}
		w.means(grid(10))
	}
}

func TestQuietInTheEnd(t *testing.T) { // P24.8: each node in turn, again and again, in whichever order, with fuel 1 and more
	for i := range 80 {
		for _, fuel := range []int{1, 2, 1000} {
			x := chance(5000 + i)
			p := drawPlan(&x, 3+x.below(10))
			w := watch(t, fmt.Sprintf("plan %d with %d, %+v", i, fuel, p), p)
			for _, k := range drawAsks(&x, p, 30) {
				if k.is {
					w.insert(k.at, k.u)
				} else {
					w.advance(k.at, k.l)
				}
			}
			w.hold("asked")
			for round := 0; w.m.failed == api.OK && !w.quiet(); round++ {
				for at := range p.Nodes {
					if fuel > 1 {
						at = len(p.Nodes) - 1 - at
					}
					w.step(at, fuel)
				}
				if round > 50000 {
					t.Fatalf("%s: it is never quiet", w.name)
				}
			}
			if w.m.failed != api.OK {
				continue
			}
			w.hold("quiet")
			w.isSettled()
			w.means(grid(8))
		}
	}
}

func TestQuietMeansThatNoStepDoesAnything(t *testing.T) { // P24.5: Quiet is true just if no node's Step changes anything, however much fuel it has
	quiet, not := 0, 0
	for i := range 150 {
		x := chance(6000 + i)
		p := drawPlan(&x, 2+x.below(6))
		w := watch(t, fmt.Sprintf("plan %d, %+v", i, p), p)
		for range 25 {
			w.anyCall(&x)
			if x.below(3) == 0 {
				for at := range p.Nodes {
					w.step(at, 100)
				}
			}
			if w.m.failed != api.OK {
				break
			}
			if x.below(4) > 0 {
				continue
			}
			does := false
			for at := range p.Nodes {
				f := w.again()
				does = does || doesSomething(f, p, at)
			}
			if got := w.quiet(); got == does {
				t.Fatalf("%s: Quiet %v, does a Step something? %v", w.name, got, does)
			}
			if does {
				not++
			} else {
				quiet++
			}
		}
	}
	if quiet < 50 || not < 50 {
		t.Errorf("%d were quiet, %d were not", quiet, not)
	}
}

// doesSomething: does a Step take fuel, or change what is stored, or how?
func doesSomething(f *flow.Flow, p api.Plan, at int) bool {
	f.Step(at, 0) // what is only advanced is no work
	before := shape(f, at)
	left, _ := f.Step(at, 1<<40)
	return left < 1<<40 || !slices.Equal(before, shape(f, at))
}

// shape is how many batches a node's spines have, how many changes, and from where on these are told apart.
func shape(f *flow.Flow, at int) []string {
	var l []string
	for _, s := range f.Spines(at) {
		l = append(l, "a spine")
		for _, b := range s.Batches() {
			l = append(l, fmt.Sprint(b.Weight(), b.Len(), b.Since()))
		}
	}
	return l
}

func TestFewBatches(t *testing.T) { // P24.9: over many changes, without any fuel for merges, and with some
	for _, fuel := range []int{0, 1, 3} {
		p := outsAre(planOf(9999, input(num), arrange(0, 1), counts(0, 1), joins(0, 0, 1)), 1, 2, 3)
		f, _ := flow.New(p)
		most := 0
		for i := range 700 {
			f.Insert(0, up(r(i%97), i/50, i%7, 1))
			if i%100 == 99 {
				f.Advance(0, times(pair(i/50, 0)))
			}
			for at := 1; at < 4; at++ {
				f.Step(at, 1+fuel)
				for _, s := range f.Spines(at) {
					if len(s.Batches()) > mostBatches(s.Total()) {
						t.Fatalf("node %d: %d batches of %d changes", at, len(s.Batches()), s.Total())
					}
					most = max(most, len(s.Batches()))
				}
			}
		}
		if fuel == 0 && most < 5 {
			t.Errorf("there were never more than %d batches", most)
		}
	}
}

func TestJoinsOfTimesAtWhichNothingCame(t *testing.T) { // P24.6: each kind of node, at all closed times, with times that lie beside one another
	list := times(pair(0, 5), pair(5, 0), pair(1, 4), pair(4, 1), pair(2, 2), pair(3, 3))
	for _, k := range eachKind() {
		for turn := range 4 {
			w := watch(t, fmt.Sprint(k.name, turn), planOf(2, input(k.kinds...), k.node))
			x := chance(turn)
			for i, at := range list {
				w.puts(0, api.Up{Row: r(x.below(2), x.below(3)), Time: at, Diff: []int{1, -1, 2}[x.below(3)]}, api.Up{Row: r(1, i), Time: list[(i*5+turn)%6], Diff: 1})
				w.step(1, turn)
			}
			w.moves(0, pair(0, 5), pair(1, 4), pair(4, 0))
			w.settle(1)
			if w.means(grid(7)) == 0 {
				t.Fatal("nothing is closed")
			}
			w.moves(0, pair(6, 6))
			w.settle(1)
			if w.means(moment.Closure(list)) != len(moment.Closure(list)) || w.means(grid(6)) != 36 {
				t.Fatalf("%s: it is not all closed", w.name)
			}
		}
	}
}

func TestPeeksMeanThePlan(t *testing.T) { // P24.6: what is peeked, at all times that are closed and told apart, is what the plan means
	peeked := 0
	for i := range 40 {
		x := chance(7000 + i)
		p := drawPlan(&x, 3+x.below(6))
		p.Nodes = append(p.Nodes, arrange(x.below(len(p.Nodes)), 0))
		at := len(p.Nodes) - 1
		p.Outs = []int{at}
		w := watch(t, fmt.Sprintf("plan %d, %+v", i, p), p)
		for call := range 40 {
			w.anyCall(&x)
			if call%8 != 7 || w.m.failed != api.OK {
				continue
			}
			frontier, _ := w.f.Frontier(at)
			for _, when := range grid(7) {
				want, e := deno.At(p, w.m.lists(), when)
				got, fault := w.f.Peek(at, when)
				switch {
				case advanced(frontier, when):
					if fault != api.ErrOpen {
						t.Fatalf("%s: at %v error %d", w.name, when, int(fault))
					}
				case !advanced(w.m.traces[at].Since(), when):
					if fault != api.ErrCompacted {
						t.Fatalf("%s: at %v error %d", w.name, when, int(fault))
					}
				case e == api.OK:
					peeked++
					if fault != api.OK || !slices.EqualFunc(got, want[0], sameCount) {
						t.Fatalf("%s: at %v: %v, error %d, want %v", w.name, when, got, int(fault), want[0])
					}
				}
			}
		}
	}
	if peeked < 500 {
		t.Errorf("only %d were peeked", peeked)
	}
}

func FuzzFlows(f *testing.F) { // P24.1 to P24.9: plans and calls by bytes
	for i := range 40 {
		x := chance(8000 + i)
		var b []byte
		for range 100 + 10*i {
			b = append(b, byte(x.below(256)))
		}
		f.Add(b)
	}
	f.Fuzz(func(t *testing.T, b []byte) {
		x := &read{b}
		p := drawPlan(x, 3+x.below(8))
		w := watch(t, fmt.Sprintf("%+v", p), p)
		for call := 0; len(x.left) > 0 && call < 150; call++ {
			w.anyCall(x)
			w.hold(fmt.Sprint("call ", call))
		}
		w.means(grid(6))
		if w.m.failed == api.OK {
			w.settle(1 + x.below(3))
			w.means(grid(6))
		}
	})
}

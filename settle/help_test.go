package settle_test

import (
	"fmt"
	"math"
	"slices"
	"testing"

	"runnel/api"
	"runnel/flow"
	"runnel/settle"
)

const (
	low   = math.MinInt
	high  = math.MaxInt
	limit = 1 << 62 // where sums and products are cut off
	num   = api.KindInt
	text  = api.KindStr
)

// r is a row of numbers and texts.
func r(values ...any) api.Row {
	var l api.Row
	for _, v := range values {
		switch x := v.(type) {
		case int:
			l = append(l, api.Val{Kind: num, Int: x})
		case string:
			l = append(l, api.Val{Kind: text, Str: x})
		}
	}
	return l
}

func pair(epoch, round int) api.Time { return api.Time{Epoch: epoch, Round: round} }

func times(l ...api.Time) []api.Time { return l }

func up(r api.Row, epoch, round, diff int) api.Up {
	return api.Up{Row: r, Time: pair(epoch, round), Diff: diff}
}

// many is so many of one thing.
func many[T any](count int, x T) []T { return slices.Repeat([]T{x}, count) }

// sameUp: of values what row.Cmp tells, and no more.
func sameUp(a, b api.Up) bool {
	return a.Time == b.Time && a.Diff == b.Diff && slices.EqualFunc(a.Row, b.Row, func(x, y api.Val) bool {
		return x.Kind == y.Kind && (x.Kind != num || x.Int == y.Int) && (x.Kind != text || x.Str == y.Str)
	})
}

// stairs are so many times of which none is LessEq to another one.
func stairs(count int) []api.Time {
	var l []api.Time
	for i := range count {
		l = append(l, pair(i, count-1-i))
	}
	return l
}

func input(kinds ...int) api.Node { return api.Node{Kind: api.NodeInput, Kinds: kinds} }
func mapped(in int, exprs ...[]api.Term) api.Node {
	return api.Node{Kind: api.NodeMap, Ins: []int{in}, Exprs: exprs}
}
func filter(in int, exprs ...[]api.Term) api.Node {
	return api.Node{Kind: api.NodeFilter, Ins: []int{in}, Exprs: exprs}
}
func project(in int, cols ...int) api.Node {
	return api.Node{Kind: api.NodeProject, Ins: []int{in}, Cols: cols}
}
func concat(ins ...int) api.Node  { return api.Node{Kind: api.NodeConcat, Ins: ins} }
func negate(in int) api.Node      { return api.Node{Kind: api.NodeNegate, Ins: []int{in}} }
func consolidate(in int) api.Node { return api.Node{Kind: api.NodeConsolidate, Ins: []int{in}} }
func bucket(in, col, size, slide int) api.Node {
	return api.Node{Kind: api.NodeBucket, Ins: []int{in}, N: col, Size: size, Slide: slide}
}
func arrange(in, key int) api.Node {
	return api.Node{Kind: api.NodeArrange, Ins: []int{in}, Key: key}
}
func folds(kind, in, key, n int) api.Node {
	return api.Node{Kind: kind, Ins: []int{in}, Key: key, N: n}
}
func counts(in, key int) api.Node { return folds(api.NodeCount, in, key, 0) }
func distinct(in int) api.Node    { return folds(api.NodeDistinct, in, 0, 0) }
func joins(a, b, key int) api.Node {
	return api.Node{Kind: api.NodeJoin, Ins: []int{a, b}, Key: key}
}

// fold is one of a kind that tells rows of one number, of such.
func fold(kind, in int) api.Node {
	switch kind {
	case api.NodeSum, api.NodeCount:
		return folds(kind, in, 0, 0)
	case api.NodeTop:
		return folds(kind, in, 0, 3)
	}
	return folds(kind, in, 1, 0)
}

func col(i int) []api.Term    { return []api.Term{{Op: api.OpCol, Int: i}} }
func number(x int) []api.Term { return []api.Term{{Op: api.OpInt, Int: x}} }

// of is a step behind others.
func of(op int, l ...[]api.Term) []api.Term {
	return append(slices.Concat(l...), api.Term{Op: op})
}

// planOf is a plan whose last node is its out.
func planOf(room int, nodes ...api.Node) api.Plan {
	return api.Plan{Nodes: nodes, Outs: []int{len(nodes) - 1}, Room: room}
}

// outsAre is a plan with other outs.
func outsAre(p api.Plan, outs ...int) api.Plan {
	p.Outs = outs
	return p
}

// copiedPlan is the plan in lists of its own.
func copiedPlan(p api.Plan) api.Plan {
	p.Outs, p.Nodes = slices.Clone(p.Outs), slices.Clone(p.Nodes)
	for i := range p.Nodes {
		n := &p.Nodes[i]
		n.Ins, n.Kinds, n.Cols, n.Exprs = slices.Clone(n.Ins), slices.Clone(n.Kinds), slices.Clone(n.Cols), slices.Clone(n.Exprs)
		for j := range n.Exprs {
			n.Exprs[j] = slices.Clone(n.Exprs[j])
		}
	}
	return p
}

// everyKind is a plan in which each kind of node is.
func everyKind() api.Plan {
	return outsAre(planOf(4, input(num, text), input(num, num),
		mapped(1, of(api.OpAdd, col(0), number(0)), col(1)), filter(2, of(api.OpLess, col(1), number(5))), project(3, 0, 1), concat(4, 1), negate(5), consolidate(6),
		bucket(7, 1, 4, 2), arrange(8, 1), joins(0, 9, 1),
		folds(api.NodeDistinct, 9, 0, 0), folds(api.NodeCount, 10, 1, 0), folds(api.NodeSum, 11, 1, 1), folds(api.NodeMin, 11, 1, 0), folds(api.NodeMax, 11, 1, 0), folds(api.NodeTop, 11, 1, 2)),
		12, 13, 14, 15, 16, 10, 7, 0)
}

// brief is a thing as a text that is not too long to be read.
func brief(x any) string {
	text := fmt.Sprintf("%+v", x)
	if len(text) > 600 {
		text = text[:600] + " .."
	}
	return text
}

// The calls that are made on a flow.
const (
	inserts  = 0
	advances = 1
	steps    = 2
	compacts = 3
)

type call struct {
	do, at int
	u      api.Up
	l      []api.Time
	fuel   int
}

func insert(at int, u api.Up) call       { return call{do: inserts, at: at, u: u} }
func advance(at int, l ...api.Time) call { return call{do: advances, at: at, l: l} }
func step(at, fuel int) call             { return call{do: steps, at: at, fuel: fuel} }
func compact(at int, l ...api.Time) call { return call{do: compacts, at: at, l: l} }
func (c call) make(f *flow.Flow) (e api.Errno) {
	switch c.do {
	case inserts:
		return f.Insert(c.at, c.u)
	case advances:
		return f.Advance(c.at, c.l)
	case steps:
		_, e = f.Step(c.at, c.fuel)
		return e
	}
	return f.Compact(c.at, c.l)
}

// subject is a plan, and calls that are made on each flow of it.
type subject struct {
	name  string
	p     api.Plan
	calls []call
}

func subjectOf(name string, p api.Plan, calls ...call) subject {
	return subject{name + ": " + brief(p), p, calls}
}

// flow is a new flow behind the calls.
func (s subject) flow(t *testing.T) *flow.Flow {
	t.Helper()
	f, e := flow.New(s.p)
	if e != api.OK {
		t.Fatalf("%s: error %d", s.name, int(e))
	}
	for _, c := range s.calls {
		c.make(f)
	}
	return f
}

// inserted is how many inserts were taken.
func (s subject) inserted(t *testing.T) int {
	t.Helper()
	f, e := flow.New(s.p)
	if e != api.OK {
		t.Fatalf("%s: error %d", s.name, int(e))
	}
	taken := 0
	for _, c := range s.calls {
		if e := c.make(f); e == api.OK && c.do == inserts {
			taken++
		}
	}
	return taken
}

// driven is Settle as the chapter says it, one step behind the other: Quiet ahead of each, and behind the last one. Of no node there is no step.
func driven(f *flow.Flow, nodes, most int) (steps int, quiet bool, e api.Errno) {
	at := 0
	for {
		if f.Quiet() || steps >= most || nodes == 0 {
			return steps, f.Quiet(), api.OK
		}
		_, e = f.Step(at, 1)
		steps++
		if e != api.OK {
			return steps, false, e
		}
		if at++; at == nodes {
			at = 0
		}
	}
}

// drivenRound is a round, step by step.
func drivenRound(f *flow.Flow, nodes int) (steps int, e api.Errno) {
	for at := 0; at < nodes; at++ {
		if _, e = f.Step(at, 1); e != api.OK {
			return at + 1, e
		}
	}
	return max(nodes, 0), api.OK
}

// isSame holds what can be seen of two flows of a plan against each other.
func isSame(t *testing.T, name string, p api.Plan, got, want *flow.Flow) {
	t.Helper()
	if a, b := got.Failed(), want.Failed(); a != b {
		t.Fatalf("%s: failed by %d, want %d", name, int(a), int(b))
	}
	for i := range p.Outs {
		a, _ := got.Out(i)
		b, _ := want.Out(i)
		if !slices.EqualFunc(a, b, sameUp) {
			t.Fatalf("%s: out %d: %s, want %s", name, i, brief(a), brief(b))
		}
	}
	for at := range p.Nodes {
		a, _ := got.Frontier(at)
		b, _ := want.Frontier(at)
		if !slices.Equal(a, b) {
			t.Fatalf("%s: the frontier of node %d: %v, want %v", name, at, a, b)
		}
		if a, b := shape(got, at), shape(want, at); !slices.Equal(a, b) {
			t.Fatalf("%s: the spines of node %d: %v, want %v", name, at, a, b)
		}
	}
	waiting, stored := got.Load()
	if a, b := want.Load(); a != waiting || b != stored {
		t.Fatalf("%s: %d wait, %d are stored; want %d, %d", name, waiting, stored, a, b)
	}
	if a, b := got.Quiet(), want.Quiet(); a != b {
		t.Fatalf("%s: quiet %v, want %v", name, a, b)
	}
}

// shape is which batches a node's spines have, and from where on they tell times apart.
func shape(f *flow.Flow, at int) []string {
	var l []string
	for _, s := range f.Spines(at) {
		l = append(l, fmt.Sprint("a spine of ", s.Total(), s.Since()))
		for _, b := range s.Batches() {
			l = append(l, fmt.Sprint(b.Weight(), b.Len(), b.Since(), b.Ups()))
		}
	}
	return l
}

// settles holds Settle, behind the calls, against as many steps, driven one by one.
func (s subject) settles(t *testing.T, nodes, most int) (steps int, quiet bool, e api.Errno) {
	t.Helper()
	name := fmt.Sprintf("%s: Settle of %d nodes, %d steps at most", s.name, nodes, most)
	got, want := s.flow(t), s.flow(t)
	steps, quiet, e = settle.Settle(got, nodes, most)
	n, done, fault := driven(want, nodes, most)
	if steps != n || quiet != done || e != fault {
		t.Fatalf("%s: %d, %v, %d; want %d, %v, %d", name, steps, quiet, int(e), n, done, int(fault))
	}
	isSame(t, name, s.p, got, want)
	return steps, quiet, e
}

// stands holds Settle of so few nodes that the flow is never quiet, and of more steps than can be driven: all of them are done, and the flow is as it is behind a few.
func (s subject) stands(t *testing.T, nodes, few, most int) {
	t.Helper()
	name := fmt.Sprintf("%s: Settle of %d nodes, %d steps at most", s.name, nodes, most)
	got, want := s.flow(t), s.flow(t)
	if n, quiet, e := driven(want, nodes, few); n != few || quiet || e != api.OK {
		t.Fatalf("%s: driven: %d, %v, %d", name, n, quiet, int(e))
	}
	if steps, quiet, e := settle.Settle(got, nodes, most); steps != most || quiet || e != api.OK {
		t.Fatalf("%s: %d, %v, %d", name, steps, quiet, int(e))
	}
	isSame(t, name, s.p, got, want)
	driven(want, nodes, few)
	isSame(t, name+", and as many again", s.p, got, want)
}

// rounds holds Round against steps that are driven.
func (s subject) rounds(t *testing.T, nodes int) (steps int, e api.Errno) {
	t.Helper()
	name := fmt.Sprintf("%s: Round of %d nodes", s.name, nodes)
	got, want := s.flow(t), s.flow(t)
	steps, e = settle.Round(got, nodes)
	n, fault := drivenRound(want, nodes)
	if steps != n || e != fault {
		t.Fatalf("%s: %d, %d; want %d, %d", name, steps, int(e), n, int(fault))
	}
	isSame(t, name, s.p, got, want)
	return steps, e
}

// leads are the inputs that lead to a node.
func leads(p api.Plan, at int) []int {
	seen, todo := map[int]bool{}, []int{at}
	var l []int
	for len(todo) > 0 {
		at, todo = todo[0], todo[1:]
		if seen[at] {
			continue
		}
		seen[at] = true
		if p.Nodes[at].Kind == api.NodeInput {
			l = append(l, at)
		}
		todo = append(todo, p.Nodes[at].Ins...)
	}
	return l
}

// least are the times to which no other one is LessEq, each once, in order.
func least(l []api.Time) []api.Time {
	var kept []api.Time
	for _, t := range l {
		beats := func(u api.Time) bool { return u != t && u.Epoch <= t.Epoch && u.Round <= t.Round }
		if !slices.ContainsFunc(l, beats) && !slices.Contains(kept, t) {
			kept = append(kept, t)
		}
	}
	slices.SortFunc(kept, func(a, b api.Time) int { return a.Epoch - b.Epoch })
	return kept
}

// isSettled holds a flow that is quiet against what that means.
func isSettled(t *testing.T, name string, p api.Plan, f *flow.Flow) {
	t.Helper()
	if waiting, _ := f.Load(); waiting != 0 || !f.Quiet() {
		t.Fatalf("%s: %d wait; quiet %v", name, waiting, f.Quiet())
	}
	for at := range p.Nodes {
		var all []api.Time
		for _, in := range leads(p, at) {
			own, _ := f.Frontier(in)
			all = append(all, own...)
		}
		if got, _ := f.Frontier(at); !slices.Equal(got, least(all)) {
			t.Fatalf("%s: the frontier of node %d is %v, want %v", name, at, got, least(all))
		}
		for _, s := range f.Spines(at) {
			if len(s.Batches()) > 1 {
				t.Fatalf("%s: node %d has a spine of %d batches", name, at, len(s.Batches()))
			}
		}
	}
	if n, quiet, e := settle.Settle(f, len(p.Nodes), high); n != 0 || !quiet || e != api.OK {
		t.Fatalf("%s: a second Settle: %d, %v, %d", name, n, quiet, int(e))
	}
}

package tune_test

import (
	"fmt"
	"math"
	"reflect"
	"slices"
	"strings"
	"testing"

	"runnel/api"
	"runnel/plan"
	"runnel/tune"
	"runnel/words"
)

const (
	low  = math.MinInt
	high = math.MaxInt
	num  = api.KindInt
	text = api.KindStr
)

// many is so many of one thing.
func many[T any](count int, x T) []T { return slices.Repeat([]T{x}, count) }

func input(kinds ...int) api.Node { return api.Node{Kind: api.NodeInput, Kinds: kinds} }
func mapped(in int, exprs ...[]api.Term) api.Node {
	return api.Node{Kind: api.NodeMap, Ins: []int{in}, Exprs: exprs}
}
func filter(in int, exprs ...[]api.Term) api.Node {
	return api.Node{Kind: api.NodeFilter, Ins: []int{in}, Exprs: exprs}
}
func project(in int, cols ...int) api.Node {
	return api.Node{Kind: api.NodeProject, Ins: []int{in}, Cols: cols}
}
func concat(ins ...int) api.Node { return api.Node{Kind: api.NodeConcat, Ins: ins} }
func negate(in int) api.Node     { return api.Node{Kind: api.NodeNegate, Ins: []int{in}} }
func bucket(in, col, size, slide int) api.Node {
	return api.Node{Kind: api.NodeBucket, Ins: []int{in}, N: col, Size: size, Slide: slide}
}

// keyed is a node of a kind that has a key, and a number where it has one.
func keyed(kind, in, key, n int) api.Node {
	return api.Node{Kind: kind, Ins: []int{in}, Key: key, N: n}
}
func joins(a, b, key int) api.Node {
	return api.Node{Kind: api.NodeJoin, Ins: []int{a, b}, Key: key}
}

func col(i int) api.Term          { return api.Term{Op: api.OpCol, Int: i} }
func number(x int) api.Term       { return api.Term{Op: api.OpInt, Int: x} }
func quoted(s string) api.Term    { return api.Term{Op: api.OpStr, Str: s} }
func op(step int) api.Term        { return api.Term{Op: step} }
func of(l ...api.Term) []api.Term { return l }

// planOf is a plan of room 5 whose last node is its out.
func planOf(nodes ...api.Node) api.Plan {
	return api.Plan{Nodes: nodes, Outs: []int{len(nodes) - 1}, Room: 5}
}

func outsAre(p api.Plan, outs ...int) api.Plan {
	p.Outs = outs
	return p
}

func roomIs(p api.Plan, room int) api.Plan {
	p.Room = room
	return p
}

// parsed is the plan of room 5 whose other lines these are, with a "/" between.
func parsed(s string) api.Plan {
	s = "room 5\n" + strings.Join(strings.Split(s, " / "), "\n") + "\n"
	p, e, at := words.Parse([]byte(s))
	if e != api.OK {
		panic(fmt.Sprintf("%q is no plan: %d", s, at))
	}
	return p
}

// exprs are the expressions of a text, with a "|" between.
func exprs(s string) [][]api.Term {
	if s == "" {
		return nil
	}
	return parsed("map 0 [ " + strings.ReplaceAll(s, " | ", " ] [ ") + " ]").Nodes[0].Exprs
}

// clone is a plan with the same things in lists of its own.
func clone(p api.Plan) api.Plan {
	p.Nodes, p.Outs = slices.Clone(p.Nodes), slices.Clone(p.Outs)
	for i := range p.Nodes {
		p.Nodes[i] = cloneNode(p.Nodes[i])
	}
	return p
}

func cloneNode(n api.Node) api.Node {
	n.Ins, n.Kinds, n.Cols, n.Exprs = slices.Clone(n.Ins), slices.Clone(n.Kinds), slices.Clone(n.Cols), cloneExprs(n.Exprs)
	return n
}

func cloneExprs(l [][]api.Term) [][]api.Term {
	l = slices.Clone(l)
	for i := range l {
		l[i] = slices.Clone(l[i])
	}
	return l
}

// withoutEmpty is the plan with nil for each list that is empty.
func withoutEmpty(p api.Plan) api.Plan {
	p = clone(p)
	p.Nodes, p.Outs = nilIfEmpty(p.Nodes), nilIfEmpty(p.Outs)
	for i := range p.Nodes {
		n := &p.Nodes[i]
		n.Ins, n.Kinds, n.Cols, n.Exprs = nilIfEmpty(n.Ins), nilIfEmpty(n.Kinds), nilIfEmpty(n.Cols), withoutEmptySteps(n.Exprs)
	}
	return p
}

func withoutEmptySteps(l [][]api.Term) [][]api.Term {
	l = nilIfEmpty(slices.Clone(l))
	for i := range l {
		l[i] = nilIfEmpty(l[i])
	}
	return l
}

func nilIfEmpty[T any](l []T) []T {
	if len(l) == 0 {
		return nil
	}
	return l
}

// alike: every field, used or not; nil and empty lists are one.
func alike(p, q api.Plan) bool { return reflect.DeepEqual(withoutEmpty(p), withoutEmpty(q)) }

// brief is a thing as a text that is not too long to be read, a plan by its words.
func brief(x any) string {
	s := fmt.Sprintf("%+v", x)
	if p, ok := x.(api.Plan); ok {
		if b, e := words.Print(p); e == api.OK {
			s = strings.ReplaceAll(strings.TrimSpace(string(b)), "\n", " / ")
		}
	}
	if len(s) > 1200 {
		s = s[:900] + " .. " + s[len(s)-250:]
	}
	return s
}

// usedOnly is a plan with nothing in the fields that its nodes' kinds do not use.
func usedOnly(p api.Plan) api.Plan {
	b, e := words.Print(p)
	if e != api.OK {
		panic(fmt.Sprintf("a plan that may not be: %d", int(e)))
	}
	q, _, _ := words.Parse(b)
	return q
}

// holdTuned holds a plan's text against that of the tuned one, and against which nodes of that stand for each of its own.
func holdTuned(t *testing.T, name, given, want string, at ...int) {
	t.Helper()
	holdTunedPlan(t, name, parsed(given), parsed(want), at...)
}

func holdTunedPlan(t *testing.T, name string, p, want api.Plan, at ...int) {
	t.Helper()
	for _, x := range []api.Plan{p, want} {
		if e, place := plan.Check(x); e != api.OK {
			t.Fatalf("%s: %s may not be: %d at %d", name, brief(x), int(e), place)
		}
	}
	q, gone, e := tune.Tune(clone(p))
	if e != api.OK || !alike(q, want) || !slices.Equal(gone, at) {
		t.Fatalf("%s: Tune(%s) = %s, %v, %d, want %s, %v", name, brief(p), brief(q), gone, int(e), brief(want), at)
	}
	holdAll(t, name, p)
}

// holdStays holds a plan in which nothing is to be done.
func holdStays(t *testing.T, name, given string) {
	t.Helper()
	p := parsed(given)
	holdTunedPlan(t, name, p, p, upTo(len(p.Nodes))...)
}

// upTo are the numbers below this one.
func upTo(count int) []int {
	l := make([]int, count)
	for i := range l {
		l[i] = i
	}
	return l
}

// holdRefused holds a plan that is not tuned against its error.
func holdRefused(t *testing.T, name string, p api.Plan, want api.Errno) {
	t.Helper()
	if q, at, e := tune.Tune(p); e != want || len(at) > 0 || !reflect.DeepEqual(withoutEmpty(q), api.Plan{}) {
		t.Fatalf("%s: Tune = %s, %v, %d, want nothing, %d", name, brief(q), at, int(e), int(want))
	}
}

// holdSame holds two nodes, either one ahead, against whether they are Same.
func holdSame(t *testing.T, name string, a, b api.Node, want bool) {
	t.Helper()
	if tune.Same(a, b) != want || tune.Same(b, a) != want || !tune.Same(a, cloneNode(a)) || !tune.Same(b, cloneNode(b)) {
		t.Fatalf("%s: Same(%s, %s) = %v, %v, want %v", name, brief(a), brief(b), tune.Same(a, b), tune.Same(b, a), want)
	}
}

// holdFused holds expressions over expressions against what comes of them, or against nothing.
func holdFused(t *testing.T, name string, l, m, want [][]api.Term, ok bool) {
	t.Helper()
	got, there := tune.Fuse(cloneExprs(l), cloneExprs(m))
	if there != ok || !reflect.DeepEqual(withoutEmptySteps(got), withoutEmptySteps(want)) || !ok && len(got) > 0 {
		t.Fatalf("%s: Fuse(%s, %s) = %s, %v, want %s, %v", name, brief(l), brief(m), brief(got), there, brief(want), ok)
	}
	if asked, there := askedFuse(l, m); there != ok || !reflect.DeepEqual(withoutEmptySteps(asked), withoutEmptySteps(want)) {
		t.Fatalf("%s: the words say %s, %v of %s, %s; want %s, %v", name, brief(asked), there, brief(l), brief(m), brief(want), ok)
	}
}

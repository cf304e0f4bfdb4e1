package tune_test

import (
	"fmt"
	"reflect"
	"slices"
	"testing"
	"unsafe"

	"runnel/api"
	"runnel/tune"
)

// withRoom is the list in memory of its own, with these things in the spare room behind it.
func withRoom[T any](l []T, spare ...T) []T {
	return slices.Clip(append(slices.Clip(slices.Clone(l)), spare...))[:len(l)]
}

// roomyNode is the node with spare room behind each of its lists.
func roomyNode(n api.Node) api.Node {
	n.Ins, n.Kinds, n.Cols = withRoom(n.Ins, 0, 72), withRoom(n.Kinds, 1, 74), withRoom(n.Cols, 0, 76)
	var exprs [][]api.Term
	for _, l := range n.Exprs {
		exprs = append(exprs, withRoom(l, number(1), api.Term{Op: 77, Int: 78, Str: "spare"}))
	}
	n.Exprs = withRoom(exprs, withRoom(of(number(79)), op(80)))
	return n
}

// roomy is the plan with spare room behind each of its lists.
func roomy(p api.Plan) api.Plan {
	var nodes []api.Node
	for _, n := range p.Nodes {
		nodes = append(nodes, roomyNode(n))
	}
	p.Nodes = withRoom(nodes, roomyNode(input(num)), roomyNode(api.Node{Kind: 81}))
	p.Outs = withRoom(p.Outs, 0, 84)
	return p
}

// whole is a copy of a plan with all that lies in its lists, spare room too.
func whole(p api.Plan) api.Plan {
	p.Nodes, p.Outs = slices.Clone(p.Nodes[:cap(p.Nodes)]), p.Outs[:cap(p.Outs)]
	for i := range p.Nodes {
		n := &p.Nodes[i]
		n.Ins, n.Kinds, n.Cols, n.Exprs = n.Ins[:cap(n.Ins)], n.Kinds[:cap(n.Kinds)], n.Cols[:cap(n.Cols)], slices.Clone(n.Exprs[:cap(n.Exprs)])
		for j, l := range n.Exprs {
			n.Exprs[j] = l[:cap(l)]
		}
	}
	return clone(p)
}

// spoilList writes over a list, spare room too.
func spoilList[T any](l []T, x T) {
	for i := range l[:cap(l)] {
		l[:cap(l)][i] = x
	}
}

// spoilPlan writes over all that lies in a plan's lists.
func spoilPlan(p api.Plan) {
	for _, n := range p.Nodes[:cap(p.Nodes)] {
		spoilList(n.Ins, -91)
		spoilList(n.Kinds, -92)
		spoilList(n.Cols, -93)
		for _, l := range n.Exprs[:cap(n.Exprs)] {
			spoilList(l, api.Term{Op: -94})
		}
		spoilList(n.Exprs, nil)
	}
	spoilList(p.Nodes, api.Node{Kind: -95})
	spoilList(p.Outs, -96)
}

// memoryPlans are plans in which something is to be done, or nothing, and others that plan.Check refuses.
func memoryPlans() []api.Plan {
	l := []api.Plan{planOf(input()), planOf(input(num, text)), planOf(input(num), mapped(0, many(16, of(col(0), number(2), op(api.OpMul)))...), mapped(1, many(16, of(col(3)))...)),
		planOf(input(num), mapped(0, of(col(0))), project(1, 0, 0), concat(2, 2), filter(3, of(col(1)))), planOf(many(64, input(num, num))...)}
	for name := range gadgets() {
		p := parsed(laid(name, "a map of a map", "a concat of a concat", "a project of a project", name))
		l = append(l, p, filled(p))
	}
	slices.SortFunc(l, func(a, b api.Plan) int { return len(fmt.Sprint(a)) - len(fmt.Sprint(b)) })
	for _, name := range []string{"nothing at all", "65 nodes", "9 outs", "a map of no step", "its own in", "a filter of two", "a join's key", "a map of a text too long"} {
		l = append(l, wrongPlans()[name].p)
	}
	for seed := range 40 {
		l = append(l, drawPlan(newChance(seed), 16))
	}
	return l
}

// fusing are expressions over expressions, of which some are no steps, or no columns.
func fusing() (pairs [][2][][]api.Term) {
	pairs = append(pairs, [2][][]api.Term{exprs("c0 2 mul | 'a"), exprs("c0 c1 | c0 | c0 | 5 | c1 len")}, [2][][]api.Term{exprs("c0"), exprs("c0")}, [2][][]api.Term{nil, nil},
		[2][][]api.Term{exprs("1"), exprs("c0 | c1")}, [2][][]api.Term{{nil}, exprs("c0 | 2 | c0")}, [2][][]api.Term{exprs("1 2 3"), [][]api.Term{nil, of(col(0)), nil}})
	for seed := range 30 {
		x := newChance(seed)
		pairs = append(pairs, [2][][]api.Term{drawAnyExprs(x), drawAnyExprs(x)})
	}
	return pairs
}

// roomyExprs are expressions with spare room behind each list.
func roomyExprs(l [][]api.Term) [][]api.Term { return roomyNode(mapped(0, l...)).Exprs }

// wholeExprs is a copy of expressions with all that lies in their lists, spare room too.
func wholeExprs(l [][]api.Term) [][]api.Term {
	return whole(planOf(mapped(0, l...), api.Node{Exprs: l})).Nodes[1].Exprs
}

func spoilExprs(l [][]api.Term) { spoilPlan(planOf(api.Node{Exprs: l})) }

func TestPlansHandedInAreLeft(t *testing.T) { // the rule of memory: neither changed nor kept, spare room included
	for i, p := range memoryPlans() {
		given, second := roomy(p), roomy(p)
		before := whole(given)
		want, wantAt, fault := tune.Tune(clone(p))
		want, wantAt = clone(want), slices.Clone(wantAt)
		q, at, e := tune.Tune(given)
		if e != fault || !alike(q, want) || !slices.Equal(at, wantAt) {
			t.Errorf("plan %d with spare room: %s, %v, %d", i, brief(q), at, int(e))
		}
		if !reflect.DeepEqual(whole(given), before) {
			t.Errorf("plan %d was changed", i)
		}
		if spoilPlan(given); !alike(q, want) || !slices.Equal(at, wantAt) {
			t.Errorf("plan %d: what was handed in is written over, and so is what was told", i)
		}
		if again, gone, _ := tune.Tune(second); !alike(again, want) || !slices.Equal(gone, wantAt) {
			t.Errorf("plan %d: told again: %s, %v", i, brief(again), gone)
		}
	}
}

func TestExpressionsHandedInAreLeft(t *testing.T) { // the rule of memory, of Fuse
	for i, pair := range fusing() {
		l, m := roomyExprs(pair[0]), roomyExprs(pair[1])
		beforeL, beforeM := wholeExprs(l), wholeExprs(m)
		want, ok := tune.Fuse(cloneExprs(pair[0]), cloneExprs(pair[1]))
		want = cloneExprs(want)
		got, there := tune.Fuse(l, m)
		if there != ok || !reflect.DeepEqual(withoutEmptySteps(got), withoutEmptySteps(want)) {
			t.Errorf("expressions %d with spare room: %s, %v, want %s, %v", i, brief(got), there, brief(want), ok)
		}
		if !reflect.DeepEqual(wholeExprs(l), beforeL) || !reflect.DeepEqual(wholeExprs(m), beforeM) {
			t.Errorf("expressions %d were changed", i)
		}
		spoilExprs(l)
		if spoilExprs(m); !reflect.DeepEqual(withoutEmptySteps(got), withoutEmptySteps(want)) {
			t.Errorf("expressions %d: what was handed in is written over, and so is what was told", i)
		}
	}
}

func TestNodesHandedInAreLeft(t *testing.T) { // the rule of memory, of Same
	for seed := range 300 {
		x := newChance(seed)
		n := drawAnyNode(x)
		p := roomy(planOf(n, n, drawAnyNode(x)))
		before := whole(p)
		if !tune.Same(p.Nodes[0], p.Nodes[1]) || tune.Same(p.Nodes[0], p.Nodes[2]) != askedSame(p.Nodes[0], p.Nodes[2]) || !reflect.DeepEqual(whole(p), before) {
			t.Errorf("nodes %d: %s", seed, brief(p.Nodes))
		}
	}
}

func TestListsThatAreOneIn(t *testing.T) { // the rule of memory: nodes that have one list between them
	l, steps := []int{0, 0, 0}, of(number(1), number(2), op(api.OpAdd))
	exprs := [][]api.Term{steps, steps, steps[:1]}
	p := outsAre(planOf(input(l...), api.Node{Kind: api.NodeMap, Ins: l[:1], Exprs: exprs}, api.Node{Kind: api.NodeMap, Ins: []int{1}, Exprs: exprs}, concat(l...), project(1, l...), keyed(api.NodeCount, 2, 0, 0), concat(l[1:]...)), 1, 2, 3, 4, 5, 6)
	before := whole(p)
	q, at, e := tune.Tune(p)
	want := outsAre(planOf(input(0, 0, 0), mapped(0, steps, steps, steps[:1]), concat(0, 0, 0), project(1, 0, 0, 0), keyed(api.NodeCount, 1, 0, 0), concat(0, 0)), 1, 1, 2, 3, 4, 5)
	if e != api.OK || !alike(q, want) || !slices.Equal(at, []int{0, 1, 1, 2, 3, 4, 5}) || !reflect.DeepEqual(whole(p), before) {
		t.Errorf("Tune(%s) = %s, %v, %d", brief(p), brief(q), at, int(e))
	}
	takePlan(t, places{}, "what is told", q)
	got, _ := tune.Fuse(exprs, [][]api.Term{of(col(1)), of(col(1)), steps})
	takeExprs(t, places{}, "what is fused", got)
	got, _ = tune.Fuse(exprs, exprs)
	takeExprs(t, places{}, "what is fused of steps alone", got)
}

// takeExprs takes the places of all that lies in expressions.
func takeExprs(t *testing.T, taken places, name string, l [][]api.Term) {
	t.Helper()
	takeList(t, taken, name, l)
	for _, steps := range l[:cap(l)] {
		takeList(t, taken, name+": steps", steps)
	}
}

// places are where the things of lists lie, each of which may be there but once.
type places map[unsafe.Pointer]string

// takeList takes the places of a list's things, spare room too.
func takeList[T any](t *testing.T, p places, name string, l []T) {
	t.Helper()
	for i := range l[:cap(l)] {
		place := unsafe.Pointer(&l[:cap(l)][i])
		if other, there := p[place]; there {
			t.Fatalf("%s lies where %s does", name, other)
		}
		p[place] = name
	}
}

// takePlan takes the places of all that lies in a plan's lists.
func takePlan(t *testing.T, taken places, name string, p api.Plan) {
	t.Helper()
	takeList(t, taken, name+": outs", p.Outs)
	takeList(t, taken, name+": nodes", p.Nodes)
	for _, n := range p.Nodes[:cap(p.Nodes)] {
		takeList(t, taken, name+": ins", n.Ins)
		takeList(t, taken, name+": kinds", n.Kinds)
		takeList(t, taken, name+": cols", n.Cols)
		takeList(t, taken, name+": exprs", n.Exprs)
		for _, steps := range n.Exprs[:cap(n.Exprs)] {
			takeList(t, taken, name+": steps", steps)
		}
	}
}

func TestAnswersAreTheirOwn(t *testing.T) { // the rule of memory: spare room too
	taken := places{} // it keeps what was told, so that no memory is told twice only because it came to be free
	for i, p := range memoryPlans() {
		given := roomy(p)
		takePlan(t, taken, fmt.Sprint("plan ", i), given)
		for round := range 2 {
			q, at, _ := tune.Tune(given)
			takePlan(t, taken, fmt.Sprintf("tuned plan %d, answer %d", i, round), q)
			takeList(t, taken, fmt.Sprintf("at of plan %d, answer %d", i, round), at)
		}
	}
	for i, pair := range fusing() {
		l, m := roomyExprs(pair[0]), roomyExprs(pair[1])
		takeExprs(t, taken, fmt.Sprint("lower expressions ", i), l)
		takeExprs(t, taken, fmt.Sprint("upper expressions ", i), m)
		for round := range 2 {
			fused, _ := tune.Fuse(l, m)
			takeExprs(t, taken, fmt.Sprintf("fused expressions %d, answer %d", i, round), fused)
		}
	}
}

func TestAnswersAreWrittenOver(t *testing.T) { // the rule of memory: what is done to one answer is seen in no other, and not in what was handed in
	for i, p := range memoryPlans() {
		given := roomy(p)
		before := whole(given)
		got, at, _ := tune.Tune(given)
		other, otherAt, _ := tune.Tune(given)
		want, wantAt := clone(other), slices.Clone(otherAt)
		spoilPlan(got)
		spoilList(at, -97)
		again, gone, _ := tune.Tune(given)
		if !alike(other, want) || !alike(again, want) || !slices.Equal(otherAt, wantAt) || !slices.Equal(gone, wantAt) || !reflect.DeepEqual(whole(given), before) {
			t.Errorf("plan %d: what is told is written over, and so is another answer, or the plan", i)
		}
		for j := range other.Nodes { // each list by itself, appended to
			n := &other.Nodes[j]
			_, _, _ = append(n.Ins, -1, -2), append(n.Kinds, -3), append(n.Cols, -4)
			for _, steps := range n.Exprs {
				_ = append(steps, op(-5), op(-6))
			}
			_ = append(n.Exprs, of(op(-7)))
		}
		if _ = append(other.Outs, -8); !alike(other, want) {
			t.Errorf("plan %d: one list is appended to, and another one is changed", i)
		}
	}
	for i, pair := range fusing() {
		l, m := roomyExprs(pair[0]), roomyExprs(pair[1])
		beforeL, beforeM := wholeExprs(l), wholeExprs(m)
		got, _ := tune.Fuse(l, m)
		other, _ := tune.Fuse(l, m)
		want := cloneExprs(other)
		spoilExprs(got)
		for _, steps := range other {
			_ = append(steps, op(-5), op(-6))
		}
		if !reflect.DeepEqual(other, want) || !reflect.DeepEqual(wholeExprs(l), beforeL) || !reflect.DeepEqual(wholeExprs(m), beforeM) {
			t.Errorf("expressions %d: what is fused is written over, and so is another answer, or what was handed in", i)
		}
	}
}

func TestAnswersHangOnArgumentsAlone(t *testing.T) { // also behind other plans, and behind faults
	tell := func() (l []string) {
		for _, p := range memoryPlans() {
			q, at, e := tune.Tune(p)
			l = append(l, fmt.Sprintf("%d %v %+v", e, at, withoutEmpty(q)))
		}
		for _, pair := range fusing() {
			fused, ok := tune.Fuse(pair[0], pair[1])
			l = append(l, fmt.Sprintf("%v %+v", ok, withoutEmptySteps(fused)))
		}
		for seed := range 50 {
			x := newChance(seed)
			l = append(l, fmt.Sprint(tune.Same(drawAnyNode(x), drawAnyNode(x))))
		}
		slices.Sort(l)
		return l
	}
	first := tell()
	for range 3 {
		for i, s := range tell() {
			if s != first[i] {
				t.Errorf("answer %d: once %.300s, then %.300s", i, first[i], s)
			}
		}
	}
}

package plan_test

import (
	"fmt"
	"reflect"
	"slices"
	"testing"
	"unsafe"

	"runnel/api"
	"runnel/plan"
)

// withRoom is the list with spare room behind it, which is filled.
func withRoom[T any](l []T, spare ...T) []T {
	return slices.Clip(append(slices.Clip(slices.Clone(l)), spare...))[:len(l)]
}

// roomyNode is the node with spare room behind each of its lists.
func roomyNode(n api.Node) api.Node {
	n.Ins, n.Kinds, n.Cols = withRoom(n.Ins, 71, 72), withRoom(n.Kinds, 73, 74), withRoom(n.Cols, 75, 76)
	var exprs [][]api.Term
	for _, l := range n.Exprs {
		exprs = append(exprs, withRoom(l, api.Term{Op: 77, Int: 78, Str: "spare"}))
	}
	n.Exprs = withRoom(exprs, withRoom([]api.Term{{Op: 79}}, api.Term{Op: 80}))
	return n
}

// roomy is the plan with spare room behind each of its lists.
func roomy(p api.Plan) api.Plan {
	var nodes []api.Node
	for _, n := range p.Nodes {
		nodes = append(nodes, roomyNode(n))
	}
	p.Nodes = withRoom(nodes, roomyNode(api.Node{Kind: 81, Ins: []int{82}}), roomyNode(api.Node{}))
	p.Outs = withRoom(p.Outs, 83, 84)
	return p
}

// wholeList is a copy of all that lies in a list, spare room too.
func wholeList[T any](l []T) []T { return slices.Clone(l[:cap(l)]) }

// whole is a copy of all that lies in a plan's lists, spare room too.
func whole(p api.Plan) api.Plan {
	p.Nodes, p.Outs = wholeList(p.Nodes), wholeList(p.Outs)
	for i, n := range p.Nodes {
		n.Ins, n.Kinds, n.Cols, n.Exprs = wholeList(n.Ins), wholeList(n.Kinds), wholeList(n.Cols), wholeList(n.Exprs)
		for j, l := range n.Exprs {
			n.Exprs[j] = wholeList(l)
		}
		p.Nodes[i] = n
	}
	return p
}

// spoilList writes over a list, spare room too.
func spoilList[T any](l []T, x T) {
	for i := range l[:cap(l)] {
		l[:cap(l)][i] = x
	}
}

// spoilPlan writes over all that was handed in.
func spoilPlan(p api.Plan) {
	for _, n := range p.Nodes[:cap(p.Nodes)] {
		spoilList(n.Ins, -91)
		spoilList(n.Kinds, -92)
		spoilList(n.Cols, -93)
		for _, l := range n.Exprs[:cap(n.Exprs)] {
			spoilList(l, api.Term{Op: -94})
		}
		spoilList(n.Exprs, nil)
	}
	spoilList(p.Nodes, api.Node{Kind: -95})
	spoilList(p.Outs, -96)
}

// memoryPlans are plans that may be, and others with a fault of each sort.
func memoryPlans() []api.Plan {
	l := []api.Plan{everyKind(), eight(), planOf(input(num)), planOf(input(), fed(project(), 0))}
	for _, m := range slices.Concat(simpleMade(), keyedMade(), mapFaults(), otherFaults()) {
		p, _ := around(m.ins, m.node, true)
		l = append(l, p)
	}
	for _, k := range inTurn() {
		p := planOf(many(16, input(num))...)
		k.turn(&p)
		l = append(l, p)
	}
	return append(l, api.Plan{}, planOf(ring(5, 2)...), planOf(many(100, negate(3))...))
}

// told is all that is told of a plan.
type told struct {
	e      api.Errno
	at     int
	kinds  [][]int
	order  []int
	inputs []int
	users  [][]int
}

func tell(p api.Plan) told {
	var a told
	a.e, a.at = plan.Check(p)
	a.kinds, _ = plan.Kinds(p)
	a.order, _ = plan.Order(p)
	a.inputs = plan.Inputs(p)
	for node := -1; node <= len(p.Nodes); node++ {
		a.users = append(a.users, plan.Users(p, node))
	}
	for _, n := range p.Nodes {
		plan.Group(n)
	}
	return a
}

// String is what is told, nil and empty lists alike.
func (a told) String() string {
	return fmt.Sprint(int(a.e), a.at, a.kinds, a.order, a.inputs, a.users)
}

// lists are all lists of numbers that are told.
func (a told) lists() [][]int {
	return slices.Concat(a.kinds, a.users, [][]int{a.order, a.inputs})
}

func TestWhatIsHandedInIsLeft(t *testing.T) { // the rule of memory: neither changed nor kept, spare room included
	for _, p := range memoryPlans() {
		want := tell(p).String()
		given := roomy(p)
		before := whole(given)
		got := tell(given)
		if !reflect.DeepEqual(whole(given), before) {
			t.Errorf("%+v was changed to %+v", before, whole(given))
		}
		if got.String() != want {
			t.Errorf("with spare room %v, without %v", got, want)
		}
		if spoilPlan(given); got.String() != want {
			t.Errorf("what was handed in is written over, and so is what was told: %v, %v", got, want)
		}
		if other := tell(roomy(p)).String(); other != want {
			t.Errorf("told again: %v, %v", other, want)
		}
	}
}

func TestListsThatAreOneIn(t *testing.T) { // the rule of memory: nodes that have one list between them
	kinds, ins, cols, exprs := []int{num, num}, []int{0}, []int{0, 1}, [][]api.Term{col(1)}
	p := planOf(input(kinds...), input(kinds...), api.Node{Kind: api.NodeNegate, Ins: ins}, api.Node{Kind: api.NodeProject, Ins: ins, Cols: cols}, api.Node{Kind: api.NodeProject, Ins: cols[:1], Cols: cols}, api.Node{Kind: api.NodeFilter, Ins: ins, Exprs: exprs}, api.Node{Kind: api.NodeMap, Ins: ins, Exprs: exprs}, concat(kinds...), api.Node{Kind: api.NodeJoin, Ins: cols, Key: 1})
	p.Outs = cols
	two := []int{num, num}
	holdGood(t, p, [][]int{two, two, two, two, two, two, {num}, two, {num, num, num}}, rising(9))
	got, _ := plan.Kinds(p)
	taken := places{}
	taken.take(t, "an input's kinds", kinds)
	taken.take(t, "some columns", cols)
	for at, l := range got {
		taken.take(t, fmt.Sprint("the columns of ", at), l)
	}
}

// places are where the numbers of lists lie, each of which may be there but once.
type places map[unsafe.Pointer]string

func (p places) take(t *testing.T, name string, l []int) {
	t.Helper()
	for i := range l[:cap(l)] {
		place := unsafe.Pointer(&l[:cap(l)][i])
		if other, there := p[place]; there {
			t.Fatalf("%s lies where %s does", name, other)
		}
		p[place] = name
	}
}

func TestAnswersAreTheirOwn(t *testing.T) { // the rule of memory: spare room too
	taken := places{} // it keeps what was told, so that no memory is told twice only because it came to be free
	lists := map[*[]int]string{}
	for i, p := range memoryPlans() {
		given := roomy(p)
		taken.take(t, "outs", given.Outs)
		for _, n := range given.Nodes[:cap(given.Nodes)] {
			taken.take(t, "a node's ins", n.Ins)
			taken.take(t, "a node's kinds", n.Kinds)
			taken.take(t, "a node's columns", n.Cols)
		}
		for round := range 2 {
			a := tell(given)
			name := fmt.Sprintf("plan %d, answer %d", i, round)
			for _, l := range a.lists() {
				taken.take(t, name, l)
			}
			for j := range a.kinds[:cap(a.kinds)] {
				place := &a.kinds[:cap(a.kinds)][j]
				if other, there := lists[place]; there {
					t.Fatalf("%s lies where %s does", name, other)
				}
				lists[place] = name
			}
		}
	}
}

func TestAnswersAreWrittenOver(t *testing.T) { // the rule of memory: what is done to one answer is seen in no other, and not in the plan
	for _, p := range memoryPlans() {
		given := roomy(p)
		before, want := whole(given), tell(given).String()
		count := len(tell(given).lists())
		for i := range count {
			got, other := tell(given), tell(given)
			rest := slices.Delete(got.lists(), i, i+1)
			was := fmt.Sprint(rest)
			l := got.lists()[i]
			spoilList(l, -97)
			l = append(l, -98)
			spoilList(l, -99)
			if fmt.Sprint(rest) != was {
				t.Fatalf("of %+v: one list is written over, and so are others: %v, %v", p, rest, was)
			}
			if other.String() != want || tell(given).String() != want {
				t.Fatalf("of %+v: one answer is written over, and so is another: %v, %v", p, other, want)
			}
		}
		a := tell(given)
		spoilList(a.kinds, []int{-97})
		if tell(given).String() != want || !reflect.DeepEqual(whole(given), before) {
			t.Fatalf("%+v was changed with an answer to %+v", before, whole(given))
		}
	}
}

func TestAnswersHangOnArgumentsAlone(t *testing.T) { // also behind other plans, and behind faults
	var first []string
	for _, p := range memoryPlans() {
		first = append(first, tell(p).String())
	}
	for range 3 {
		for i, p := range slices.Backward(memoryPlans()) {
			if got := tell(p).String(); got != first[i] {
				t.Errorf("of %+v once %v, then %v", p, first[i], got)
			}
		}
	}
}

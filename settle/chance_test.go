package settle_test

import (
	"fmt"
	"slices"
	"testing"

	"runnel/api"
	"runnel/front"
	"runnel/plan"
)

// source tells numbers from 0 up to below a bound, by which plans and calls are drawn.
type source interface {
	below(bound int) int
}

// chance tells numbers that follow from one alone: the same ones whenever it is made.
type chance uint64

func (x *chance) below(bound int) int {
	*x = *x*6364136223846793005 + 1442695040888963407
	return int(uint64(*x)>>33) % bound
}

// read tells numbers by bytes, and 0 behind the last one.
type read struct{ left []byte }

func (x *read) below(bound int) int {
	if len(x.left) == 0 {
		return 0
	}
	b := int(x.left[0])
	x.left = x.left[1:]
	return b % bound
}

// anyOf is one of them.
func anyOf[T any](x source, l ...T) T { return l[x.below(len(l))] }

// drawPlan is a plan of few inputs and some nodes, of any kinds, whose numbers are in any order. Where it is to run, it has no more of what makes many changes of few than is looked through in a moment.
func drawPlan(x source, most int, runs bool) api.Plan {
	p := api.Plan{Outs: []int{0}, Room: 1}
	for range 1 + x.below(3) {
		p.Nodes = append(p.Nodes, input(drawKinds(x)...))
	}
	for tries := 0; len(p.Nodes) < most && tries < 20*most; tries++ {
		more := p
		more.Nodes = append(slices.Clone(p.Nodes), drawNode(x, p))
		if e, _ := plan.Check(more); e == api.OK && !(runs && isTooMuch(more)) {
			p = more
		}
	}
	p = mixed(x, p)
	p.Room = anyOf(x, 1, 1, 2, 3, 10)
	p.Outs = nil
	for range 1 + x.below(4) {
		p.Outs = append(p.Outs, x.below(len(p.Nodes)))
	}
	return p
}

func drawKinds(x source) []int {
	var kinds []int
	for range x.below(3) + 1 {
		kinds = append(kinds, anyOf(x, num, num, text))
	}
	return kinds
}

// isTooMuch: do so many come of few changes?
func isTooMuch(p api.Plan) bool {
	many := 0
	for _, n := range p.Nodes {
		switch n.Kind {
		case api.NodeJoin, api.NodeBucket:
			many++
		case api.NodeConcat:
			many += len(n.Ins) - 1
		}
	}
	return many > 3
}

// drawNode is one that may be behind those of a plan; whether it fits is not asked.
func drawNode(x source, p api.Plan) api.Node {
	kinds, _ := plan.Kinds(p)
	in := x.below(len(p.Nodes))
	cols := len(kinds[in])
	aCol := func() int { return x.below(max(1, cols)) }
	node := api.Node{Kind: 1 + x.below(api.Nodes-1), Ins: []int{in}}
	switch node.Kind {
	case api.NodeMap:
		for range 1 + x.below(3) {
			node.Exprs = append(node.Exprs, drawExpr(x, aCol()))
		}
	case api.NodeFilter:
		node.Exprs = [][]api.Term{drawExpr(x, aCol())}
	case api.NodeProject:
		for range x.below(4) {
			node.Cols = append(node.Cols, aCol())
		}
	case api.NodeConcat:
		for range x.below(4) {
			node.Ins = append(node.Ins, anyOf(x, in, x.below(len(p.Nodes))))
		}
	case api.NodeBucket:
		node.N, node.Size, node.Slide = aCol(), 1+x.below(4), 1+x.below(3)
	case api.NodeJoin:
		node.Ins = append(node.Ins, anyOf(x, in, x.below(len(p.Nodes))))
		node.Key = anyOf(x, 0, 1, 1, 1, 2)
	default:
		node.Key, node.N = x.below(cols+1), aCol()
		if node.Kind == api.NodeTop {
			node.N = 1 + x.below(3)
		}
	}
	return node
}

// drawExpr is one in which nothing is too great, as long as values are small.
func drawExpr(x source, c int) []api.Term {
	switch x.below(7) {
	case 0:
		return of(api.OpAdd, col(c), number(x.below(3)-1))
	case 1:
		return of(api.OpLess, col(c), number(x.below(4)))
	case 2:
		return of(api.OpMod, col(c), number(2))
	case 3:
		return of(api.OpLen, col(c))
	case 4:
		return of(api.OpNot, of(api.OpEq, col(c), number(1)))
	case 5:
		return of(api.OpMin, col(c), col(c))
	}
	return col(c)
}

// mixed is a plan with other numbers for its nodes.
func mixed(x source, p api.Plan) api.Plan {
	order := make([]int, len(p.Nodes)) // where each node comes to stand
	for i := range order {
		order[i] = i
	}
	for i := range order {
		j := i + x.below(len(order)-i)
		order[i], order[j] = order[j], order[i]
	}
	nodes := make([]api.Node, len(p.Nodes))
	for i, n := range p.Nodes {
		n.Ins = slices.Clone(n.Ins)
		for j, in := range n.Ins {
			n.Ins[j] = order[in]
		}
		nodes[order[i]] = n
	}
	p.Nodes = nodes
	return p
}

// widened is a plan of a greater size: more concats of many, and windows of any size.
func widened(x source, p api.Plan) api.Plan {
	p = copiedPlan(p)
	for at := range p.Nodes {
		n := &p.Nodes[at]
		switch n.Kind {
		case api.NodeConcat:
			for len(n.Ins) < api.MaxIns && x.below(4) > 0 {
				n.Ins = append(n.Ins, anyOf(x, n.Ins...))
			}
		case api.NodeBucket:
			n.Slide = 1 + x.below(1<<x.below(31))
			n.Size = 1 + x.below(n.Slide) + n.Slide*x.below(64)
		}
	}
	return p
}

// drawInserts is a number of inserts: few, or of any length.
func drawInserts(x source) int {
	if x.below(3) == 0 {
		return x.below(10)
	}
	n := 0
	for range 3 {
		n = n<<21 | x.below(1<<21)
	}
	return n >> x.below(63)
}

// drawRow has values of these kinds, of which there are few.
func drawRow(x source, kinds []int) api.Row {
	var l api.Row
	for _, kind := range kinds {
		if kind == num {
			l = append(l, api.Val{Kind: num, Int: x.below(3), Str: anyOf(x, "", "beside")})
		} else {
			l = append(l, api.Val{Kind: text, Str: anyOf(x, "", "a", "b"), Int: x.below(2)})
		}
	}
	return l
}

// drawTime is one from one of a list's on, not far away.
func drawTime(x source, l []api.Time) api.Time {
	var t api.Time
	if len(l) > 0 {
		t = l[x.below(len(l))]
	}
	return pair(t.Epoch+x.below(3), t.Round+x.below(3))
}

// drawFurther is a frontier that is not ahead of another one.
func drawFurther(x source, f []api.Time) []api.Time {
	var l []api.Time
	for range 1 + x.below(3) {
		if len(f) > 0 {
			l = append(l, drawTime(x, f))
		}
	}
	return front.New(l)
}

// drawDiff is from less than 0 up to not so many, never 0.
func drawDiff(x source, most int) int {
	diff := x.below(2*most) - most
	if diff >= 0 {
		diff++
	}
	return diff
}

// ofKind are the nodes of a kind.
func ofKind(p api.Plan, kind int) []int {
	var l []int
	for at, n := range p.Nodes {
		if n.Kind == kind {
			l = append(l, at)
		}
	}
	return l
}

// draw is a plan with calls: inserts, of which not more than so many, advances, steps and compactions, most of them taken.
func draw(t *testing.T, x source, name string, p api.Plan, most int) subject {
	t.Helper()
	s := subjectOf(name, p)
	f := s.flow(t)
	arranged, left := ofKind(p, api.NodeArrange), most
	for range 2 * most {
		in := anyOf(x, ofKind(p, api.NodeInput)...)
		frontier, _ := f.Frontier(in)
		var c call
		switch kind := x.below(12); {
		case kind < 6 && left > 0:
			left--
			c = insert(in, api.Up{Row: drawRow(x, p.Nodes[in].Kinds), Time: drawTime(x, frontier), Diff: drawDiff(x, 3)})
		case kind < 8:
			c = advance(in, drawFurther(x, frontier)...)
		case kind < 9 && len(arranged) > 0:
			at := anyOf(x, arranged...)
			c = compact(at, drawFurther(x, f.Spines(at)[0].Since())...)
		case kind < 10:
			c = step(x.below(len(p.Nodes)), anyOf(x, 0, 1, 1, 2, 10))
		default:
			continue
		}
		c.make(f)
		s.calls = append(s.calls, c)
	}
	if x.below(3) == 0 {
		for _, in := range ofKind(p, api.NodeInput) {
			s.calls = append(s.calls, advance(in))
		}
	}
	return s
}

// patience is how many steps a flow may take that is settled many times.
const patience = 700

// needed is how many steps it takes until the flow behind the calls is quiet, or fails, if each node has its turn; false, where they are too many.
func (s subject) needed(t *testing.T) (steps int, few bool) {
	t.Helper()
	n, quiet, e := driven(s.flow(t), len(s.p.Nodes), patience)
	return n, quiet || e != api.OK
}

// beside is a plan in which folds feed a join, and one another, in this order of kinds: each the next one, and the last one and the first one the join.
func beside(kinds ...int) api.Plan {
	nodes := []api.Node{input(num)}
	for _, kind := range kinds {
		one := fold(kind, len(nodes)-1)
		if kind == api.NodeCount { // that its rows have one number
			one.Key = 0
		}
		nodes = append(nodes, one)
	}
	nodes = append(nodes, joins(len(nodes)-1, 1, 0), folds(api.NodeTop, len(nodes), 1, 2))
	return outsAre(planOf(1, nodes...), len(nodes)-1, len(nodes)-2, 1)
}

// apart is a subject with changes at times of which none is LessEq to another one.
func apart(x source, p api.Plan, count int, closed ...api.Time) subject {
	s := subjectOf(fmt.Sprint(count, " times apart"), p)
	l := stairs(count)
	for len(l) > 0 {
		i := x.below(len(l))
		for _, in := range ofKind(p, api.NodeInput) {
			s.calls = append(s.calls, insert(in, api.Up{Row: drawRow(x, p.Nodes[in].Kinds), Time: l[i], Diff: drawDiff(x, 2)}))
		}
		l = slices.Delete(l, i, i+1)
	}
	for _, in := range ofKind(p, api.NodeInput) {
		s.calls = append(s.calls, advance(in, closed...))
	}
	return s
}

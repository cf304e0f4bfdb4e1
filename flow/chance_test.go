package flow_test

import (
	"slices"

	"runnel/api"
	"runnel/front"
	"runnel/plan"
)

// source tells numbers from 0 up to below a bound, by which plans and calls are drawn.
type source interface {
	below(bound int) int
}

// chance tells numbers that follow from one alone: the same ones whenever it is made.
type chance uint64

func (x *chance) below(bound int) int {
	*x = *x*6364136223846793005 + 1442695040888963407
	return int(uint64(*x)>>33) % bound
}

// read tells numbers by bytes, and 0 behind the last one.
type read struct{ left []byte }

func (x *read) below(bound int) int {
	if len(x.left) == 0 {
		return 0
	}
	b := int(x.left[0])
	x.left = x.left[1:]
	return b % bound
}

// anyOf is one of them.
func anyOf[T any](x source, l ...T) T { return l[x.below(len(l))] }

// drawPlan is a plan of few inputs and some nodes, of any kinds, whose numbers are in any order.
func drawPlan(x source, most int) api.Plan {
	p := api.Plan{Outs: []int{0}, Room: 1}
	for range 1 + x.below(3) {
		p.Nodes = append(p.Nodes, input(drawKinds(x)...))
	}
	for tries := 0; len(p.Nodes) < most && tries < 20*most; tries++ {
		more := p
		more.Nodes = append(slices.Clone(p.Nodes), drawNode(x, p))
		if e, _ := plan.Check(more); e == api.OK && !isTooMuch(more) {
			p = more
		}
	}
	p = mixed(x, p)
	p.Room = anyOf(x, 1, 1, 2, 3, 10)
	p.Outs = nil
	for range 1 + x.below(4) {
		p.Outs = append(p.Outs, x.below(len(p.Nodes)))
	}
	return p
}

func drawKinds(x source) []int {
	var kinds []int
	for range x.below(3) + 1 {
		kinds = append(kinds, anyOf(x, num, num, text))
	}
	return kinds
}

// isTooMuch: do more come of few changes than is looked through in a moment?
func isTooMuch(p api.Plan) bool {
	many := 0
	for _, n := range p.Nodes {
		switch n.Kind {
		case api.NodeJoin, api.NodeBucket:
			many++
		case api.NodeConcat:
			many += len(n.Ins) - 1
		}
	}
	return many > 4
}

// drawNode is one that may be behind those of a plan; whether it fits is not asked.
func drawNode(x source, p api.Plan) api.Node {
	kinds, _ := plan.Kinds(p)
	in := x.below(len(p.Nodes))
	cols := len(kinds[in])
	aCol := func() int { return x.below(max(1, cols)) }
	node := api.Node{Kind: 1 + x.below(api.Nodes-1), Ins: []int{in}}
	switch node.Kind {
	case api.NodeMap:
		for range 1 + x.below(3) {
			node.Exprs = append(node.Exprs, drawExpr(x, aCol()))
		}
	case api.NodeFilter:
		node.Exprs = [][]api.Term{drawExpr(x, aCol())}
	case api.NodeProject:
		for range x.below(4) {
			node.Cols = append(node.Cols, aCol())
		}
	case api.NodeConcat:
		for range x.below(3) {
			node.Ins = append(node.Ins, anyOf(x, in, x.below(len(p.Nodes))))
		}
	case api.NodeBucket:
		node.N, node.Size, node.Slide = aCol(), 1+x.below(4), 1+x.below(3)
	case api.NodeJoin:
		node.Ins = append(node.Ins, x.below(len(p.Nodes)))
		node.Key = anyOf(x, 0, 1, 1, 1, 2)
	default:
		node.Key, node.N = x.below(cols+1), aCol()
		if node.Kind == api.NodeTop {
			node.N = 1 + x.below(3)
		}
	}
	return node
}

// drawExpr is one in which nothing is too great, as long as values are small.
func drawExpr(x source, c int) []api.Term {
	switch x.below(7) {
	case 0:
		return of(api.OpAdd, col(c), number(x.below(3)-1))
	case 1:
		return of(api.OpLess, col(c), number(x.below(4)))
	case 2:
		return of(api.OpMod, col(c), number(2))
	case 3:
		return of(api.OpLen, col(c))
	case 4:
		return of(api.OpNot, of(api.OpEq, col(c), number(1)))
	case 5:
		return of(api.OpMin, col(c), col(c))
	}
	return col(c)
}

// mixed is a plan with other numbers for its nodes.
func mixed(x source, p api.Plan) api.Plan {
	order := make([]int, len(p.Nodes)) // where each node comes to stand
	for i := range order {
		order[i] = i
	}
	for i := range order {
		j := i + x.below(len(order)-i)
		order[i], order[j] = order[j], order[i]
	}
	nodes := make([]api.Node, len(p.Nodes))
	for i, n := range p.Nodes {
		n.Ins = slices.Clone(n.Ins)
		for j, in := range n.Ins {
			n.Ins[j] = order[in]
		}
		nodes[order[i]] = n
	}
	p.Nodes = nodes
	return p
}

// drawRow has values of these kinds, of which there are few.
func drawRow(x source, kinds []int) api.Row {
	var l api.Row
	for _, kind := range kinds {
		if kind == num {
			l = append(l, api.Val{Kind: num, Int: x.below(4), Str: anyOf(x, "", "beside")})
		} else {
			l = append(l, api.Val{Kind: text, Str: anyOf(x, "", "a", "b"), Int: x.below(2)})
		}
	}
	return l
}

// drawTime is one from one of a list's on, not far away.
func drawTime(x source, l []api.Time) api.Time {
	var t api.Time
	if len(l) > 0 {
		t = l[x.below(len(l))]
	}
	return pair(t.Epoch+x.below(3), t.Round+x.below(3))
}

// drawFurther is a frontier that is not ahead of another one.
func drawFurther(x source, f []api.Time) []api.Time {
	var l []api.Time
	for range 1 + x.below(3) {
		if len(f) > 0 {
			l = append(l, drawTime(x, f))
		}
	}
	return front.New(l)
}

// wildly is a call by which now and then something is handed in where something else is asked for.
func (w *watched) wildly(x source) {
	w.t.Helper()
	at := x.below(len(w.m.p.Nodes)+2) - 1
	t := pair(x.below(8)-1, x.below(8)-1)
	switch x.below(4) {
	case 0:
		var kinds []int
		if at >= 0 && at < len(w.m.p.Nodes) && x.below(2) == 0 {
			kinds = w.m.p.Nodes[at].Kinds
		}
		w.insert(at, api.Up{Row: drawRow(x, kinds), Time: t, Diff: x.below(3) - 1})
	case 1:
		w.advance(at, anyOf(x, times(t), times(t, pair(x.below(5), x.below(5))), make([]api.Time, 17)))
	case 2:
		w.compact(at, anyOf(x, times(t), times(t, pair(x.below(5), x.below(5))), make([]api.Time, 17)))
	case 3:
		w.step(at, x.below(4)-1)
	}
}

// ofKind are the nodes of a kind.
func (m *model) ofKind(kind int) []int {
	var l []int
	for at, n := range m.p.Nodes {
		if n.Kind == kind {
			l = append(l, at)
		}
	}
	return l
}

// anyCall does one that is drawn.
func (w *watched) anyCall(x source) {
	w.t.Helper()
	inputs, arranged := w.m.ofKind(api.NodeInput), w.m.ofKind(api.NodeArrange)
	switch kind := x.below(16); {
	case kind < 5:
		w.someInsert(x, anyOf(x, inputs...), 5)
	case kind < 7:
		in := anyOf(x, inputs...)
		w.advance(in, drawFurther(x, w.m.fronts[in]))
	case kind < 12:
		w.step(x.below(len(w.m.p.Nodes)), anyOf(x, -1, 0, 1, 1, 1, 2, 3, 7, 1000))
	case kind < 13 && len(arranged) > 0:
		at := anyOf(x, arranged...)
		since := w.m.traces[at].Since()
		w.compact(at, anyOf(x, drawFurther(x, since), times(drawTime(x, since)), since))
	case kind < 15 && len(arranged) > 0:
		at := anyOf(x, arranged...)
		w.peek(at, pair(x.below(7), x.below(7)))
		w.peek(at, drawTime(x, w.m.traces[at].Since()))
	case kind == 15 && x.below(2) == 0:
		w.wildly(x)
	default:
		w.quiet()
	}
}

// someInsert is of a change that fits, mostly; a Diff is from less than 0 up to not so many.
func (w *watched) someInsert(x source, at, most int) {
	w.t.Helper()
	diff := x.below(2*most) - most
	if diff >= 0 {
		diff++
	}
	w.insert(at, api.Up{Row: drawRow(x, w.m.p.Nodes[at].Kinds), Time: drawTime(x, w.m.fronts[at]), Diff: diff})
}

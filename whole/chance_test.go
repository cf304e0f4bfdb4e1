package whole_test

import (
	"slices"

	"runnel/api"
	"runnel/engine"
	"runnel/front"
	"runnel/plan"
)

// source tells numbers from 0 up to below a bound, by which plans and commands are drawn.
type source interface {
	below(bound int) int
}

// chance tells numbers that follow from one alone: the same ones whenever it is made.
type chance uint64

func (x *chance) below(bound int) int {
	*x = *x*6364136223846793005 + 1442695040888963407
	return int(uint64(*x)>>33) % bound
}

// read tells numbers by bytes, and 0 behind the last one.
type read struct{ left []byte }

func (x *read) below(bound int) int {
	if len(x.left) == 0 {
		return 0
	}
	b := int(x.left[0])
	x.left = x.left[1:]
	return b % bound
}

// anyOf is one of them.
func anyOf[T any](x source, l ...T) T { return l[x.below(len(l))] }

// shuffled is a list in any order.
func shuffled[T any](x source, l []T) []T {
	l = slices.Clone(l)
	for i := range l {
		j := i + x.below(len(l)-i)
		l[i], l[j] = l[j], l[i]
	}
	return l
}

// drawPlan is a plan of one input or several and some nodes, of any kinds, whose numbers are in any order; rarely that of every kind.
func drawPlan(x source, most int) api.Plan {
	if x.below(12) == 11 {
		return everyKind()
	}
	p := api.Plan{Outs: []int{0}, Room: 1}
	for range 1 + x.below(3) {
		p.Nodes = append(p.Nodes, input(drawKinds(x)...))
	}
	for tries := 0; len(p.Nodes) < most && tries < 20*most; tries++ {
		more, node := p, drawNode(x, p)
		if x.below(5) == 0 {
			node = keyed(api.NodeArrange, x.below(2), 0, x.below(len(p.Nodes)))
		}
		more.Nodes = append(slices.Clone(p.Nodes), node)
		if e, _ := plan.Check(more); e == api.OK && !isTooMuch(more) {
			p = more
		}
	}
	p = mixed(x, p)
	p.Room = anyOf(x, 1, 1, 2, 3, 10)
	p.Outs = nil
	for range 1 + x.below(4) {
		p.Outs = append(p.Outs, x.below(len(p.Nodes)))
	}
	return p
}

// mixed is a plan with other numbers for its nodes.
func mixed(x source, p api.Plan) api.Plan {
	var order []int // where each node comes to stand
	for i := range p.Nodes {
		order = append(order, i)
	}
	order = shuffled(x, order)
	nodes := make([]api.Node, len(p.Nodes))
	for i, n := range p.Nodes {
		n.Ins = slices.Clone(n.Ins)
		for j, in := range n.Ins {
			n.Ins[j] = order[in]
		}
		nodes[order[i]] = n
	}
	p.Nodes = nodes
	return p
}

func drawKinds(x source) []int {
	var kinds []int
	for range x.below(3) + 1 {
		kinds = append(kinds, anyOf(x, ints, ints, texts))
	}
	return kinds
}

// isTooMuch: do more come of few changes than is looked through in a moment?
func isTooMuch(p api.Plan) bool {
	many := 0
	for _, n := range p.Nodes {
		switch n.Kind {
		case api.NodeJoin, api.NodeBucket:
			many++
		case api.NodeConcat:
			many += len(n.Ins) - 1
		}
	}
	return many > 4
}

// drawNode is one that may be behind those of a plan; whether it fits is not asked.
func drawNode(x source, p api.Plan) api.Node {
	kinds, _ := plan.Kinds(p)
	in := x.below(len(p.Nodes))
	cols := len(kinds[in])
	aCol := func() int { return x.below(max(1, cols)) }
	node := api.Node{Kind: 1 + x.below(api.Nodes-1), Ins: []int{in}}
	switch node.Kind {
	case api.NodeMap:
		for range 1 + x.below(3) {
			node.Exprs = append(node.Exprs, drawExpr(x, aCol()))
		}
	case api.NodeFilter:
		node.Exprs = [][]api.Term{drawExpr(x, aCol())}
	case api.NodeProject:
		for range x.below(4) {
			node.Cols = append(node.Cols, aCol())
		}
	case api.NodeConcat:
		for range x.below(3) {
			node.Ins = append(node.Ins, anyOf(x, in, x.below(len(p.Nodes))))
		}
	case api.NodeBucket:
		node.N, node.Size, node.Slide = aCol(), 1+x.below(4), 1+x.below(3)
	case api.NodeJoin:
		node.Ins = append(node.Ins, x.below(len(p.Nodes)))
		node.Key = anyOf(x, 0, 1, 1, 1, 2)
	default:
		node.Key, node.N = x.below(cols+1), aCol()
		if node.Kind == api.NodeTop {
			node.N = 1 + x.below(3)
		}
	}
	return node
}

// drawExpr is one in which nothing is too great, as long as values are small.
func drawExpr(x source, c int) []api.Term {
	switch x.below(7) {
	case 0:
		return of(api.OpAdd, col(c), number(x.below(3)-1))
	case 1:
		return of(api.OpLess, col(c), number(x.below(4)))
	case 2:
		return of(api.OpMod, col(c), number(2))
	case 3:
		return of(api.OpLen, col(c))
	case 4:
		return of(api.OpNot, of(api.OpEq, col(c), number(1)))
	case 5:
		return of(api.OpMin, col(c), col(c))
	}
	return col(c)
}

// drawRow has values of these kinds, of which there are few.
func drawRow(x source, kinds []int) api.Row {
	var l api.Row
	for _, kind := range kinds {
		if kind == ints {
			l = append(l, api.Val{Kind: ints, Int: x.below(4)})
		} else {
			l = append(l, api.Val{Kind: texts, Str: anyOf(x, "", "a", "b")})
		}
	}
	return l
}

// drawTime is one from one of a list's on, not far away.
func drawTime(x source, l []api.Time) api.Time {
	var t api.Time
	if len(l) > 0 {
		t = l[x.below(len(l))]
	}
	return pair(t.Epoch+x.below(3), t.Round+x.below(3))
}

// drawFurther is a frontier that is not ahead of another one; the same one, now and then.
func drawFurther(x source, f []api.Time) []api.Time {
	if x.below(8) == 0 {
		return f
	}
	var l []api.Time
	for range 1 + x.below(3) {
		if len(f) > 0 {
			l = append(l, drawTime(x, f))
		}
	}
	return front.New(l)
}

// drawDiff is never 0, and not far from it.
func drawDiff(x source) int { return anyOf(x, 1, 1, 1, 2, 3, -1, -1, -2) }

// drawGreat is a Diff of which sums are too great soon or late.
func drawGreat(x source) int { return anyOf(x, 1, -1, high, low, 1<<62, -1<<62, 1<<40) }

// writer draws a script: what is drawn next hangs on what an engine, which does all of it, has come to.
type writer struct {
	g    *engine.Engine
	p    api.Plan
	diff func(source) int
	cmds []api.Cmd
}

func (w *writer) do(l ...api.Cmd) {
	for _, c := range l {
		w.cmds = append(w.cmds, c)
		w.g.Do(c)
	}
}

// drawScript is a script of a plan, with some commands ahead of the install, and at least so many behind it. Now and then each node has a turn.
func drawScript(x source, p api.Plan, most int, diff func(source) int) []api.Cmd {
	w := &writer{engine.New(), p, diff, nil}
	for range x.below(3) {
		w.do(w.wild(x)) // none of its sheets is one of a plan that may be
	}
	w.do(install(p))
	for range most {
		w.do(w.draw(x))
		if x.below(5) == 0 {
			for at := range p.Nodes {
				w.do(step(at, anyOf(x, 1, 3, 20)))
			}
		}
	}
	return w.cmds[:min(len(w.cmds), api.MaxCmds)]
}

// draw is a command that an engine with the plan takes, mostly.
func (w *writer) draw(x source) api.Cmd {
	in := anyOf(x, ofKind(w.p, api.NodeInput)...)
	frontier, _ := w.g.Flow().Frontier(in)
	switch kind := x.below(20); {
	case kind < 8:
		return insert(in, api.Up{Row: drawRow(x, w.p.Nodes[in].Kinds), Time: drawTime(x, frontier), Diff: w.diff(x)})
	case kind < 11:
		return advance(in, drawFurther(x, frontier)...)
	case kind < 14:
		return step(x.below(len(w.p.Nodes)), anyOf(x, 0, 1, 1, 2, 3, 7, 1000))
	case kind < 17:
		return w.asks(x)
	case kind < 18:
		return poll(x.below(len(w.p.Outs)))
	}
	return w.wild(x)
}

// asks is a compact or a peek of an arrangement, if there is one; else a poll.
func (w *writer) asks(x source) api.Cmd {
	arranged := ofKind(w.p, api.NodeArrange)
	if len(arranged) == 0 {
		return poll(x.below(len(w.p.Outs)))
	}
	at := anyOf(x, arranged...)
	since := w.g.Flow().Spines(at)[0].Since()
	if x.below(2) == 0 {
		return compact(at, anyOf(x, drawFurther(x, since), times(drawTime(x, since)), since)...)
	}
	return peek(at, anyOf(x, drawTime(x, since), pair(x.below(7), x.below(7))))
}

// wild is a command in which anything may be wrong; it is one that bytes tell.
func (w *writer) wild(x source) api.Cmd {
	var kinds []int
	at := x.below(len(w.p.Nodes)+2) - 1
	if at >= 0 && at < len(w.p.Nodes) && x.below(2) == 0 {
		kinds = w.p.Nodes[at].Kinds
	}
	t := pair(x.below(8)-1, x.below(8)-1)
	return api.Cmd{
		Do:    x.below(api.Cmds),
		Node:  at,
		Up:    api.Up{Row: drawRow(x, kinds), Time: t, Diff: x.below(3) - 1},
		Front: anyOf(x, times(t), times(t, pair(x.below(5), x.below(5))), make([]api.Time, 2)),
		Fuel:  x.below(4) - 1,
		Sheet: anyOf(x, nil, []byte{80}, bytesOf(planOf(0, input(ints))), bytesOf(planOf(1, fed(api.NodeNegate, 0)))),
	}
}

package tune_test

import (
	"slices"

	"runnel/api"
	"runnel/plan"
)

// source tells numbers from 0 up to below a bound, by which plans and rows are drawn.
type source interface {
	below(bound int) int
}

// chance tells numbers that follow from one alone: the same ones whenever it is made.
type chance uint64

func (x *chance) below(bound int) int {
	*x = *x*6364136223846793005 + 1442695040888963407
	return int(uint64(*x)>>33) % bound
}

// newChance is one of many.
func newChance(seed int) *chance {
	x := chance(seed)
	x.below(2)
	return &x
}

// read tells numbers by bytes, and 0 behind the last one.
type read struct{ left []byte }

func (x *read) below(bound int) int {
	if len(x.left) == 0 {
		return 0
	}
	b := int(x.left[0])
	x.left = x.left[1:]
	return b % bound
}

// anyOf is one of them.
func anyOf[T any](x source, l ...T) T { return l[x.below(len(l))] }

func drawKinds(x source) []int {
	var kinds []int
	for range anyOf(x, 0, 1, 1, 2, 2, 3) {
		kinds = append(kinds, anyOf(x, num, num, num, text))
	}
	return kinds
}

// colOf is a column of a kind, if there is one.
func colOf(x source, kinds []int, kind int) (term api.Term, ok bool) {
	var l []int
	for at, k := range kinds {
		if k == kind {
			l = append(l, at)
		}
	}
	if len(l) == 0 {
		return api.Term{}, false
	}
	return col(anyOf(x, l...)), true
}

// leaf is one step that lays a value of a kind, mostly a column.
func leaf(x source, kinds []int, kind int) api.Term {
	if term, ok := colOf(x, kinds, kind); ok && x.below(4) > 0 {
		return term
	}
	if kind == text {
		return quoted(anyOf(x, "", "a", "bc"))
	}
	return number(anyOf(x, 0, 1, 2, -1, 7))
}

// tower are steps that have so many values on the stack at once.
func tower(x source, kinds []int, kind, high int) []api.Term {
	var l []api.Term
	for range high {
		l = append(l, leaf(x, kinds, kind))
	}
	for range high - 1 {
		if kind == num {
			l = append(l, op(anyOf(x, api.OpAdd, api.OpSub, api.OpMin, api.OpMax, api.OpEq)))
		} else {
			l = append(l, op(anyOf(x, api.OpMin, api.OpMax, api.OpCat)))
		}
	}
	return l
}

// drawExpr are steps that lay a value of a kind.
func drawExpr(x source, kinds []int, kind, depth int) []api.Term {
	over := func(step int, ins ...int) []api.Term {
		var l []api.Term
		for _, in := range ins {
			l = append(l, drawExpr(x, kinds, in, depth-1)...)
		}
		return append(l, op(step))
	}
	pick := x.below(10)
	switch {
	case depth <= 0 || pick < 2:
		return []api.Term{leaf(x, kinds, kind)}
	case pick == 2:
		return over(api.OpIf, num, kind, kind)
	case pick == 3:
		return over(anyOf(x, api.OpMin, api.OpMax), kind, kind)
	case pick == 4:
		return tower(x, kinds, kind, 1+x.below(16))
	case kind == text:
		return over(api.OpCat, text, text)
	case pick == 5:
		return over(api.OpLen, text)
	case pick == 6:
		one := anyOf(x, num, text)
		return over(anyOf(x, api.OpEq, api.OpLess), one, one)
	case pick == 7:
		return over(anyOf(x, api.OpNeg, api.OpNot), num)
	}
	return over(anyOf(x, api.OpAdd, api.OpSub, api.OpMul, api.OpDiv, api.OpMod, api.OpAnd, api.OpOr), num, num)
}

func drawExprs(x source, kinds []int, count int) [][]api.Term {
	var l [][]api.Term
	for range count {
		l = append(l, drawExpr(x, kinds, anyOf(x, num, num, text), anyOf(x, 0, 1, 1, 2, 3)))
	}
	return l
}

// tuned are the kinds of nodes of which something may be done, each as often as it is to be drawn.
var tuned = []int{api.NodeNegate, api.NodeNegate, api.NodeConcat, api.NodeConcat, api.NodeConcat, api.NodeConsolidate, api.NodeDistinct, api.NodeDistinct,
	api.NodeFilter, api.NodeProject, api.NodeProject, api.NodeProject, api.NodeMap, api.NodeMap, api.NodeMap}

// drawNode is one that may be behind those of a plan, often behind the last one; whether it fits is not asked.
func drawNode(x source, p api.Plan) api.Node {
	kinds, _ := plan.Kinds(p)
	in := anyOf(x, len(p.Nodes)-1, len(p.Nodes)-1, x.below(len(p.Nodes)))
	cols := len(kinds[in])
	aCol := func() int { return x.below(max(1, cols)) }
	node := api.Node{Kind: anyOf(x, anyOf(x, tuned...), anyOf(x, tuned...), x.below(api.Nodes)), Ins: []int{in}}
	switch node.Kind {
	case api.NodeInput:
		return input(drawKinds(x)...)
	case api.NodeMap:
		node.Exprs = drawExprs(x, kinds[in], 1+x.below(3))
	case api.NodeFilter:
		node.Exprs = [][]api.Term{drawExpr(x, kinds[in], num, 2)}
		if x.below(2) == 0 {
			node.Exprs = [][]api.Term{of(api.Term{Op: api.OpInt, Int: anyOf(x, 0, 1, 7, -1, low), Str: anyOf(x, "", "beside")})}
		}
	case api.NodeProject:
		node.Cols = upTo(cols)
		if x.below(3) > 0 && cols > 0 {
			node.Cols = nil
			for range x.below(cols + 2) {
				node.Cols = append(node.Cols, aCol())
			}
		}
	case api.NodeConcat:
		for range anyOf(x, 0, 0, 1, 1, 2, 3, 7) {
			node.Ins = append(node.Ins, anyOf(x, in, x.below(len(p.Nodes))))
		}
	case api.NodeBucket:
		node.N, node.Size, node.Slide = aCol(), 1+x.below(4), 1+x.below(3)
	case api.NodeJoin:
		node.Ins = append(node.Ins, anyOf(x, in, x.below(len(p.Nodes))))
		node.Key = anyOf(x, 0, 1, 1, 1, 2)
	default:
		node.Key, node.N = x.below(cols+1), aCol()
		if node.Kind == api.NodeTop {
			node.N = 1 + x.below(3)
		}
	}
	return node
}

// likeOne is a node like one of a plan, fed as that is, or by something near that.
func likeOne(x source, p api.Plan) api.Node {
	n := cloneNode(anyOf(x, p.Nodes...))
	if len(n.Ins) > 0 && x.below(2) == 0 {
		n.Ins[x.below(len(n.Ins))] = x.below(len(p.Nodes))
	}
	return n
}

// isTooMuch: do so many rows come of few?
func isTooMuch(p api.Plan) bool {
	joins, buckets := 0, 0
	for _, n := range p.Nodes {
		switch n.Kind {
		case api.NodeJoin:
			joins++
		case api.NodeBucket:
			buckets++
		}
	}
	return joins > 2 || buckets > 2
}

// drawPlan is a plan that may be, in which much is to be done, and whose nodes stand in any order.
func drawPlan(x source, most int) api.Plan {
	p := planOf(input(drawKinds(x)...))
	for tries := 0; len(p.Nodes) < most && tries < 4*most; tries++ {
		more := p
		n := drawNode(x, p)
		if x.below(4) == 0 {
			n = likeOne(x, p)
		}
		more.Nodes = append(slices.Clone(p.Nodes), n)
		if e, _ := plan.Check(more); e == api.OK && !isTooMuch(more) {
			p = more
		}
	}
	outs := []int{len(p.Nodes) - 1}
	for range x.below(4) {
		outs = append(outs, x.below(len(p.Nodes)))
	}
	p = outsAre(p, outs...)
	if x.below(3) > 0 {
		p = mixed(x, p)
	}
	return roomIs(p, 1+anyOf(x, 0, 9, 65535, x.below(65536)))
}

// mixed is a plan with other numbers for its nodes.
func mixed(x source, p api.Plan) api.Plan {
	order := upTo(len(p.Nodes)) // where each node comes to stand
	for i := range order {
		j := i + x.below(len(order)-i)
		order[i], order[j] = order[j], order[i]
	}
	q := clone(p)
	for i, n := range clone(p).Nodes {
		for j, in := range n.Ins {
			n.Ins[j] = order[in]
		}
		q.Nodes[order[i]] = n
	}
	for i, out := range p.Outs {
		q.Outs[i] = order[out]
	}
	return q
}

// drawRow has values of these kinds, of which there are few.
func drawRow(x source, kinds []int) api.Row {
	var l api.Row
	for _, kind := range kinds {
		if kind == num {
			l = append(l, api.Val{Kind: num, Int: x.below(5) - 2})
		} else {
			l = append(l, api.Val{Kind: text, Str: anyOf(x, "", "a", "bc")})
		}
	}
	return l
}

// drawInputs are few rows for each input of a plan.
func drawInputs(x source, p api.Plan) [][]api.Count {
	var l [][]api.Count
	for _, in := range plan.Inputs(p) {
		var counts []api.Count
		for range x.below(6) {
			counts = append(counts, api.Count{Row: drawRow(x, p.Nodes[in].Kinds), Diff: anyOf(x, 1, 1, 2, 3, -1, -2)})
		}
		l = append(l, counts)
	}
	return l
}

// drawStep is any step, or none, with something in all its fields.
func drawStep(x source) api.Term {
	return api.Term{Op: anyOf(x, 0, 0, x.below(api.Ops), x.below(30)-5), Int: anyOf(x, 0, 1, 2, 3, -1, low, high), Str: anyOf(x, "", "s")}
}

// drawAnyExprs are expressions of any steps; mostly they may not be evaluated.
func drawAnyExprs(x source) [][]api.Term {
	var l [][]api.Term
	for range x.below(5) {
		var steps []api.Term
		for range anyOf(x, 0, 1, 2, 5, x.below(20)) {
			steps = append(steps, drawStep(x))
		}
		l = append(l, steps)
	}
	return l
}

// drawAnyNode is any node, whether it may be or not.
func drawAnyNode(x source) api.Node {
	l := func() (l []int) {
		for range x.below(3) {
			l = append(l, anyOf(x, 0, 1, -1))
		}
		return l
	}
	few := func() int { return x.below(2) }
	return api.Node{Kind: x.below(20) - 2, Ins: l(), Kinds: l(), Cols: l(), Exprs: drawAnyExprs(x), Key: few(), N: few(), Size: few(), Slide: few()}
}

// drawAnyPlan is any plan; mostly it may not be one.
func drawAnyPlan(x source) api.Plan {
	p := api.Plan{Room: anyOf(x, 5, 5, 5, 0)}
	for range anyOf(x, 0, 1, 2, 5) {
		p.Nodes = append(p.Nodes, drawAnyNode(x))
	}
	for range anyOf(x, 0, 1, 2) {
		p.Outs = append(p.Outs, x.below(3))
	}
	return p
}

package audit_test

import (
	"slices"

	"runnel/api"
	"runnel/linear"
	"runnel/plan"
)

// source tells numbers from 0 up to below a bound, by which plans and lists are drawn.
type source interface {
	below(bound int) int
}

// chance tells numbers that follow from one alone: the same ones whenever it is made.
type chance uint64

func (x *chance) below(bound int) int {
	*x = *x*6364136223846793005 + 1442695040888963407
	return int(uint64(*x)>>33) % bound
}

// read tells numbers by bytes, and 0 behind the last one.
type read struct{ left []byte }

func (x *read) below(bound int) int {
	if len(x.left) == 0 {
		return 0
	}
	b := int(x.left[0])
	x.left = x.left[1:]
	return b % bound
}

// anyOf is one of them.
func anyOf[T any](x source, l ...T) T { return l[x.below(len(l))] }

// drawPlan is a plan of some inputs and some nodes, of kinds that may be, whose numbers are in any order.
func drawPlan(x source, inputs, most int, may func(kind int) bool) api.Plan {
	p := api.Plan{Outs: []int{0}, Room: 1}
	for range inputs {
		p.Nodes = append(p.Nodes, input(drawKinds(x)...))
	}
	for tries := 0; len(p.Nodes) < most && tries < 20*most; tries++ {
		node := drawNode(x, p)
		if !may(node.Kind) {
			continue
		}
		more := p
		more.Nodes = append(slices.Clone(p.Nodes), node)
		if e, _ := plan.Check(more); e == api.OK && !isTooMuch(more) {
			p = more
		}
	}
	p = mixed(x, p)
	p.Room = anyOf(x, 1, 2, 10, api.MaxRoom)
	p.Outs = nil
	for range 1 + x.below(4) {
		p.Outs = append(p.Outs, x.below(len(p.Nodes)))
	}
	return p
}

func anyKind(int) bool { return true }

// mixed is a plan with other numbers for its nodes.
func mixed(x source, p api.Plan) api.Plan {
	order := make([]int, len(p.Nodes)) // where each node comes to stand
	for i := range order {
		order[i] = i
	}
	for i := range order {
		j := i + x.below(len(order)-i)
		order[i], order[j] = order[j], order[i]
	}
	nodes := make([]api.Node, len(p.Nodes))
	for i, n := range p.Nodes {
		n.Ins = slices.Clone(n.Ins)
		for j, in := range n.Ins {
			n.Ins[j] = order[in]
		}
		nodes[order[i]] = n
	}
	p.Nodes = nodes
	return p
}

func drawKinds(x source) []int {
	var kinds []int
	for range x.below(3) + 1 {
		kinds = append(kinds, anyOf(x, num, num, text))
	}
	return kinds
}

// isTooMuch: do more come of few rows than is looked through in a moment?
func isTooMuch(p api.Plan) bool {
	many := 0
	for _, n := range p.Nodes {
		switch n.Kind {
		case api.NodeJoin, api.NodeBucket:
			many++
		case api.NodeConcat:
			many += len(n.Ins) - 1
		}
	}
	return many > 4
}

// isLinear: does each node but inputs do something with each row by itself?
func isLinear(p api.Plan) bool {
	return !slices.ContainsFunc(p.Nodes, func(n api.Node) bool { return n.Kind != api.NodeInput && !linear.Is(n.Kind) })
}

// drawNode is one that may be behind those of a plan; whether it fits is not asked.
func drawNode(x source, p api.Plan) api.Node {
	kinds, _ := plan.Kinds(p)
	in := x.below(len(p.Nodes))
	cols := len(kinds[in])
	aCol := func() int { return x.below(max(1, cols)) }
	node := api.Node{Kind: 1 + x.below(api.Nodes-1), Ins: []int{in}}
	switch node.Kind {
	case api.NodeMap:
		for range 1 + x.below(3) {
			node.Exprs = append(node.Exprs, drawExpr(x, aCol()))
		}
	case api.NodeFilter:
		node.Exprs = [][]api.Term{drawExpr(x, aCol())}
	case api.NodeProject:
		for range x.below(4) {
			node.Cols = append(node.Cols, aCol())
		}
	case api.NodeConcat:
		for range x.below(3) {
			node.Ins = append(node.Ins, anyOf(x, in, x.below(len(p.Nodes))))
		}
	case api.NodeBucket:
		node.N, node.Size, node.Slide = aCol(), 1+x.below(4), 1+x.below(3)
	case api.NodeJoin:
		node.Ins = append(node.Ins, x.below(len(p.Nodes)))
		node.Key = anyOf(x, 0, 1, 1, 1, 2)
	default:
		node.Key, node.N = x.below(cols+1), aCol()
		if node.Kind == api.NodeTop {
			node.N = 1 + x.below(3)
		}
	}
	return node
}

// drawExpr is one in which nothing is too great, as long as values are small.
func drawExpr(x source, c int) []api.Term {
	switch x.below(7) {
	case 0:
		return of(api.OpAdd, col(c), number(x.below(3)-1))
	case 1:
		return of(api.OpLess, col(c), number(x.below(4)))
	case 2:
		return of(api.OpMod, col(c), number(2))
	case 3:
		return of(api.OpLen, col(c))
	case 4:
		return of(api.OpNot, of(api.OpEq, col(c), number(1)))
	case 5:
		return of(api.OpMin, col(c), col(c))
	}
	return col(c)
}

// drawRow has values of these kinds, of which there are few.
func drawRow(x source, kinds []int) api.Row {
	var l api.Row
	for _, kind := range kinds {
		if kind == num {
			l = append(l, api.Val{Kind: num, Int: x.below(4), Str: anyOf(x, "", "beside")})
		} else {
			l = append(l, api.Val{Kind: text, Str: anyOf(x, "", "a", "b"), Int: x.below(2)})
		}
	}
	return l
}

// drawLists are what the inputs of a plan have: few rows, some of them twice and more, some of them so that they leave nothing.
func drawLists(x source, p api.Plan, most int, diff func() int) [][]api.Count {
	var l [][]api.Count
	for _, at := range plan.Inputs(p) {
		var rows []api.Count
		for range x.below(most + 1) {
			one := api.Count{Row: drawRow(x, p.Nodes[at].Kinds), Diff: diff()}
			if x.below(5) == 0 {
				rows = append(rows, api.Count{Row: slices.Clone(one.Row), Diff: -one.Diff})
			}
			rows = append(rows, one)
			if len(rows) > 1 && x.below(6) == 0 {
				rows = append(rows, api.Count{Row: laden(rows[x.below(len(rows))].Row), Diff: diff()})
			}
		}
		l = append(l, rows)
	}
	return l
}

// small tells Diffs that are not far from 0, 0 among them; rarely many.
func small(x source) func() int {
	return func() int { return anyOf(x, 1, 1, 1, 2, 3, 0, -1, -1, -2, 40) }
}

// greater tells Diffs of which sums are too great now and then, and others not, as those that are above 0 and below it come by turns.
func greater(x source) func() int {
	sign := 1
	return func() int {
		sign = -sign
		return sign * anyOf(x, 1, 1, 2, 1<<62, 1<<62, 1<<61, high)
	}
}

// drawAdding is a plan in which there is much of few rows.
func drawAdding(x source) api.Plan {
	p := planOf(input(num), input(num, num), project(1, anyOf(x, 0, 1)), concat(0, 2), project(3), counts(3, x.below(2)), joins(0, 1, x.below(2)), project(6, many(x.below(2), 0)...))
	p.Outs = []int{7, 5, 4, 3}[x.below(3):]
	return p
}

// drawGreat are lists of great in which the differences are as great as they may be, or greater.
func drawGreat(x source) [][]api.Count {
	l := greatLists()
	for i := range l[1] {
		l[1][i].Diff = anyOf(x, l[1][i].Diff, l[1][i].Diff, l[1][i].Diff-1, l[1][i].Diff+1, 1<<60)
	}
	return l
}

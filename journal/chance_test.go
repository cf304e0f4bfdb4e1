package journal_test

import (
	"maps"
	"slices"

	"runnel/api"
	"runnel/engine"
	"runnel/front"
	"runnel/plan"
)

// source tells numbers from 0 up to below a bound, by which plans and commands are drawn.
type source interface {
	below(bound int) int
}

// chance tells numbers that follow from one alone: the same ones whenever it is made.
type chance uint64

func (x *chance) below(bound int) int {
	*x = *x*6364136223846793005 + 1442695040888963407
	return int(uint64(*x)>>33) % bound
}

// read tells numbers by bytes, and 0 behind the last one.
type read struct{ left []byte }

func (x *read) below(bound int) int {
	if len(x.left) == 0 {
		return 0
	}
	b := int(x.left[0])
	x.left = x.left[1:]
	return b % bound
}

// anyOf is one of them.
func anyOf[T any](x source, l ...T) T { return l[x.below(len(l))] }

// drawPlan is a plan of one input or several and some nodes, of any kinds, whose numbers are in any order.
func drawPlan(x source, inputs, most int) api.Plan {
	p := api.Plan{Outs: []int{0}, Room: 1}
	for range inputs {
		p.Nodes = append(p.Nodes, input(drawKinds(x)...))
	}
	for tries := 0; len(p.Nodes) < most && tries < 20*most; tries++ {
		more := p
		node := drawNode(x, p)
		if x.below(4) == 0 {
			node = arrange(x.below(len(p.Nodes)), x.below(2))
		}
		more.Nodes = append(slices.Clone(p.Nodes), node)
		if e, _ := plan.Check(more); e == api.OK && !isTooMuch(more) {
			p = more
		}
	}
	p = mixed(x, p)
	p.Room = anyOf(x, 1, 1, 2, 3, 10)
	p.Outs = nil
	for range 1 + x.below(4) {
		p.Outs = append(p.Outs, x.below(len(p.Nodes)))
	}
	return p
}

// mixed is a plan with other numbers for its nodes.
func mixed(x source, p api.Plan) api.Plan {
	order := make([]int, len(p.Nodes)) // where each node comes to stand
	for i := range order {
		order[i] = i
	}
	for i := range order {
		j := i + x.below(len(order)-i)
		order[i], order[j] = order[j], order[i]
	}
	nodes := make([]api.Node, len(p.Nodes))
	for i, n := range p.Nodes {
		n.Ins = slices.Clone(n.Ins)
		for j, in := range n.Ins {
			n.Ins[j] = order[in]
		}
		nodes[order[i]] = n
	}
	p.Nodes = nodes
	return p
}

func drawKinds(x source) []int {
	var kinds []int
	for range x.below(3) + 1 {
		kinds = append(kinds, anyOf(x, num, num, text))
	}
	return kinds
}

// isTooMuch: do more come of few changes than is looked through in a moment?
func isTooMuch(p api.Plan) bool {
	many := 0
	for _, n := range p.Nodes {
		switch n.Kind {
		case api.NodeJoin, api.NodeBucket:
			many++
		case api.NodeConcat:
			many += len(n.Ins) - 1
		}
	}
	return many > 4
}

// drawNode is one that may be behind those of a plan; whether it fits is not asked.
func drawNode(x source, p api.Plan) api.Node {
	kinds, _ := plan.Kinds(p)
	in := x.below(len(p.Nodes))
	cols := len(kinds[in])
	aCol := func() int { return x.below(max(1, cols)) }
	node := api.Node{Kind: 1 + x.below(api.Nodes-1), Ins: []int{in}}
	switch node.Kind {
	case api.NodeMap:
		for range 1 + x.below(3) {
			node.Exprs = append(node.Exprs, drawExpr(x, aCol()))
		}
	case api.NodeFilter:
		node.Exprs = [][]api.Term{drawExpr(x, aCol())}
	case api.NodeProject:
		for range x.below(4) {
			node.Cols = append(node.Cols, aCol())
		}
	case api.NodeConcat:
		for range x.below(3) {
			node.Ins = append(node.Ins, anyOf(x, in, x.below(len(p.Nodes))))
		}
	case api.NodeBucket:
		node.N, node.Size, node.Slide = aCol(), 1+x.below(4), 1+x.below(3)
	case api.NodeJoin:
		node.Ins = append(node.Ins, x.below(len(p.Nodes)))
		node.Key = anyOf(x, 0, 1, 1, 1, 2)
	default:
		node.Key, node.N = x.below(cols+1), aCol()
		if node.Kind == api.NodeTop {
			node.N = 1 + x.below(3)
		}
	}
	return node
}

// drawExpr is one in which nothing is too great, as long as values are small.
func drawExpr(x source, c int) []api.Term {
	switch x.below(7) {
	case 0:
		return of(api.OpAdd, col(c), number(x.below(3)-1))
	case 1:
		return of(api.OpLess, col(c), number(x.below(4)))
	case 2:
		return of(api.OpMod, col(c), number(2))
	case 3:
		return of(api.OpLen, col(c))
	case 4:
		return of(api.OpNot, of(api.OpEq, col(c), number(1)))
	case 5:
		return of(api.OpMin, col(c), col(c))
	}
	return col(c)
}

// drawRow has values of these kinds, of which there are few.
func drawRow(x source, kinds []int) api.Row {
	var l api.Row
	for _, kind := range kinds {
		if kind == num {
			l = append(l, api.Val{Kind: num, Int: x.below(4), Str: anyOf(x, "", "beside")})
		} else {
			l = append(l, api.Val{Kind: text, Str: anyOf(x, "", "a", "b"), Int: x.below(2)})
		}
	}
	return l
}

// drawTime is one from one of a list's on, not far away.
func drawTime(x source, l []api.Time) api.Time {
	var t api.Time
	if len(l) > 0 {
		t = l[x.below(len(l))]
	}
	return pair(t.Epoch+x.below(3), t.Round+x.below(3))
}

// drawFurther is a frontier that is not ahead of another one; the same one, now and then.
func drawFurther(x source, f []api.Time) []api.Time {
	if x.below(8) == 0 {
		return f
	}
	var l []api.Time
	for range 1 + x.below(3) {
		if len(f) > 0 {
			l = append(l, drawTime(x, f))
		}
	}
	return front.New(l)
}

// drawDiff is from less than 0 up to not so many, never 0.
func drawDiff(x source, most int) int {
	diff := x.below(2*most) - most
	if diff >= 0 {
		diff++
	}
	return diff
}

// drawn is a session that is drawn: what is drawn next hangs on what an engine, which does all of it, its turns too, has come to.
type drawn struct {
	name string
	g    *engine.Engine
	p    api.Plan
	cmds []api.Cmd
}

func (s *drawn) do(c api.Cmd) {
	s.cmds = append(s.cmds, copiedCmd(c))
	s.g.Do(c)
}

// ofKind are the nodes of a kind.
func ofKind(p api.Plan, kind int) []int {
	var l []int
	for at, n := range p.Nodes {
		if n.Kind == kind {
			l = append(l, at)
		}
	}
	return l
}

// drawCmd is a command that an engine with the plan takes, mostly.
func (s *drawn) drawCmd(x source) api.Cmd {
	in := anyOf(x, ofKind(s.p, api.NodeInput)...)
	frontier, _ := s.g.Flow().Frontier(in)
	switch kind := x.below(20); {
	case kind < 8:
		return insert(in, api.Up{Row: drawRow(x, s.p.Nodes[in].Kinds), Time: drawTime(x, frontier), Diff: drawDiff(x, 3)})
	case kind < 10:
		return advance(in, drawFurther(x, frontier)...)
	case kind < 12:
		return step(x.below(len(s.p.Nodes)), anyOf(x, 0, 1, 1, 2, 3, 7, 1000))
	case kind < 16:
		return s.drawAsk(x)
	case kind < 17:
		return poll(x.below(len(s.p.Outs)))
	case kind < 18:
		return anyOf(x, install(s.p), install(planOf(3, input(num))))
	}
	return s.drawWild(x)
}

// drawAsk is a compact or a peek of an arrangement, if there is one; else a poll.
func (s *drawn) drawAsk(x source) api.Cmd {
	arranged := ofKind(s.p, api.NodeArrange)
	if len(arranged) == 0 {
		return poll(x.below(len(s.p.Outs)))
	}
	at := anyOf(x, arranged...)
	since := s.g.Flow().Spines(at)[0].Since()
	switch x.below(3) {
	case 0:
		return peek(at, anyOf(x, drawTime(x, since), pair(x.below(7), x.below(7))))
	case 1:
		return compact(at, times(pair(x.below(3), x.below(3)))...)
	}
	return compact(at, anyOf(x, drawFurther(x, since), times(drawTime(x, since)), since)...)
}

// drawWild is a command in which anything may be wrong.
func (s *drawn) drawWild(x source) api.Cmd {
	var kinds []int
	at := x.below(max(len(s.p.Nodes), 1)+2) - 1
	if at >= 0 && at < len(s.p.Nodes) && x.below(2) == 0 {
		kinds = s.p.Nodes[at].Kinds
	}
	t := pair(x.below(8)-1, x.below(8)-1)
	return api.Cmd{
		Do:    x.below(api.Cmds+2) - 1,
		Node:  at,
		Up:    api.Up{Row: drawRow(x, kinds), Time: t, Diff: x.below(3) - 1},
		Front: anyOf(x, times(t), times(t, pair(x.below(5), x.below(5))), make([]api.Time, 17)),
		Fuel:  x.below(4) - 1,
		Sheet: anyOf(x, nil, []byte{80}, bytesOf(planOf(0, input(num))), bytesOf(planOf(1, negate(0)))),
	}
}

// filled is a command whose fields that it does not use are set to anything.
func filled(x source, c api.Cmd) api.Cmd {
	if c.Do == api.CmdInstall {
		c.Node = anyOf(x, low, -1, 3, 99, high)
	}
	if c.Do != api.CmdInsert {
		c.Up = anyOf(x, up(r(1, "a"), 3, 3, 1), up(r(api.Val{Kind: 9}), -1, high, 0), up(many(17, api.Val{}), 5, low, low))
	}
	if c.Do != api.CmdAdvance && c.Do != api.CmdCompact {
		c.Front = anyOf(x, times(pair(1, 1)), times(pair(9, 9), pair(-1, 0)), make([]api.Time, 17))
	}
	if c.Do != api.CmdStep {
		c.Fuel = anyOf(x, low, -1, 1, high)
	}
	if c.Do != api.CmdInstall {
		c.Sheet = anyOf(x, []byte{80}, []byte{1, 2, 3}, bytesOf(planOf(1, input(num))))
	}
	return c
}

// draw is a session of a plan, with commands ahead of its install and behind it.
func draw(x source, name string, p api.Plan, most int) *drawn {
	s := &drawn{name: name, g: engine.New(), p: p}
	for range x.below(4) {
		s.do(s.drawWild(x)) // none of its sheets is one of a plan that may be
	}
	s.do(install(p))
	for range most {
		s.do(s.drawCmd(x))
		if x.below(5) > 0 {
			continue
		}
		for at := range p.Nodes { // so that changes come on, and peeks are told something
			s.do(step(at, anyOf(x, 1, 3, 20)))
		}
	}
	return s
}

// drawSince is a frontier at which a session with these frontiers of inputs may be tidied: somewhere at or ahead of them.
func drawSince(x source, fronts map[int][]api.Time) []api.Time {
	var all []api.Time
	for _, at := range slices.Sorted(maps.Keys(fronts)) {
		for _, t := range fronts[at] {
			all = append(all, pair(max(0, t.Epoch-x.below(3)), max(0, t.Round-x.below(3))))
		}
	}
	if len(all) == 0 || x.below(4) == 0 {
		all = append(all, pair(x.below(6), x.below(6)), pair(x.below(6), x.below(6)))
	}
	return least(all)
}

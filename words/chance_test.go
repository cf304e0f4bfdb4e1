package words_test

import (
	"slices"
	"strings"

	"runnel/api"
	"runnel/plan"
)

// source tells numbers from 0 up to below a bound, by which plans and texts are drawn.
type source interface {
	below(bound int) int
}

// chance tells numbers that follow from one alone: the same ones whenever it is made.
type chance uint64

func (x *chance) below(bound int) int {
	*x = *x*6364136223846793005 + 1442695040888963407
	return int(uint64(*x)>>33) % bound
}

// newChance is one of many.
func newChance(seed int) *chance {
	x := chance(seed)
	x.below(2)
	return &x
}

// read tells numbers by bytes, and 0 behind the last one.
type read struct{ left []byte }

func (x *read) below(bound int) int {
	if len(x.left) == 0 {
		return 0
	}
	b := int(x.left[0])
	x.left = x.left[1:]
	return b % bound
}

// anyOf is one of them.
func anyOf[T any](x source, l ...T) T { return l[x.below(len(l))] }

// drawNumber is a small one, or one of any length.
func drawNumber(x source) int {
	switch x.below(4) {
	case 0:
		return anyOf(x, low, high, low+1, high-1, -1, 9, 10, 99, 100, -10)
	case 1:
		n := 0
		for range 1 + x.below(8) {
			n = n<<8 | x.below(256)
		}
		return n * anyOf(x, 1, -1)
	}
	return x.below(21) - 10
}

// drawText is one of any bytes, some of them words that something else is told by.
func drawText(x source) string {
	s := ""
	for range x.below(5) {
		switch x.below(3) {
		case 0:
			s += string([]byte{byte(x.below(256))})
		case 1:
			s += anyOf(x, " ", "%", "'", "\n", "]", "[", "%20", "c0", "-1", "out", "\x7f", "!", "~")
		default:
			s += anyOf(x, "a", "bc", "DEF", "0")
		}
	}
	if x.below(40) == 0 {
		s = strings.Repeat(s+" ", 4096)[:4000+x.below(97)]
	}
	return s
}

// colOf is a column of a kind, if there is one.
func colOf(x source, kinds []int, kind int) (term api.Term, ok bool) {
	var l []int
	for at, k := range kinds {
		if k == kind {
			l = append(l, at)
		}
	}
	if len(l) == 0 {
		return api.Term{}, false
	}
	return col(anyOf(x, l...)), true
}

// drawExpr are steps that lay a value of a kind.
func drawExpr(x source, kinds []int, kind, depth int) []api.Term {
	of := func(step int, ins ...int) []api.Term {
		var l []api.Term
		for _, in := range ins {
			l = append(l, drawExpr(x, kinds, in, depth-1)...)
		}
		return append(l, op(step))
	}
	pick := x.below(10)
	if term, ok := colOf(x, kinds, kind); ok && (depth == 0 || pick < 2) {
		return []api.Term{term}
	}
	one := anyOf(x, num, text)
	switch {
	case pick == 2 && depth > 0:
		return of(api.OpIf, num, kind, kind)
	case pick == 3 && depth > 0:
		return of(anyOf(x, api.OpMin, api.OpMax), kind, kind)
	case kind == text && pick < 6 && depth > 0:
		return of(api.OpCat, text, text)
	case kind == text:
		return []api.Term{quoted(drawText(x))}
	case depth == 0 || pick == 4:
		return []api.Term{number(drawNumber(x))}
	case pick == 5:
		return of(api.OpLen, text)
	case pick == 6:
		return of(anyOf(x, api.OpEq, api.OpLess), one, one)
	case pick == 7:
		return of(anyOf(x, api.OpNeg, api.OpNot), num)
	}
	return of(anyOf(x, api.OpAdd, api.OpSub, api.OpMul, api.OpDiv, api.OpMod, api.OpAnd, api.OpOr), num, num)
}

func drawKinds(x source) []int {
	var kinds []int
	for range anyOf(x, 0, 1, 2, 3, 3, x.below(17)) {
		kinds = append(kinds, anyOf(x, num, num, text))
	}
	return kinds
}

// drawNode is one that may be behind those of a plan; whether it fits is not asked.
func drawNode(x source, p api.Plan) api.Node {
	kinds, _ := plan.Kinds(p)
	in := x.below(len(p.Nodes))
	cols := len(kinds[in])
	aCol := func() int { return x.below(max(1, cols)) }
	node := api.Node{Kind: x.below(api.Nodes), Ins: []int{in}}
	switch node.Kind {
	case api.NodeInput:
		return input(drawKinds(x)...)
	case api.NodeMap:
		for range 1 + anyOf(x, 0, 1, 2, x.below(16)) {
			node.Exprs = append(node.Exprs, drawExpr(x, kinds[in], anyOf(x, num, text), x.below(4)))
		}
	case api.NodeFilter:
		node.Exprs = [][]api.Term{drawExpr(x, kinds[in], num, x.below(4))}
	case api.NodeProject:
		for range anyOf(x, 0, 1, 2, x.below(17)) {
			node.Cols = append(node.Cols, aCol())
		}
	case api.NodeConcat:
		for range x.below(8) {
			node.Ins = append(node.Ins, anyOf(x, in, in, x.below(len(p.Nodes))))
		}
	case api.NodeBucket:
		node.N, node.Slide = aCol(), 1+x.below(1<<x.below(31))
		node.Size = node.Slide * (1 + x.below(64))
	case api.NodeJoin:
		node.Ins = append(node.Ins, anyOf(x, in, x.below(len(p.Nodes))))
		node.Key = x.below(3)
	default:
		node.Key, node.N = x.below(cols+1), aCol()
		if node.Kind == api.NodeTop {
			node.N = 1 + x.below(1000)
		}
	}
	return node
}

// drawPlan is a plan that may be, whose nodes stand in any order.
func drawPlan(x source, most int) api.Plan {
	p := planOf(input(drawKinds(x)...))
	for tries := 0; len(p.Nodes) < most && tries < 3*most; tries++ {
		more := p
		more.Nodes = append(slices.Clone(p.Nodes), drawNode(x, p))
		if e, _ := plan.Check(more); e == api.OK {
			p = more
		}
	}
	p = mixed(x, p)
	p.Room, p.Outs = 1+anyOf(x, 0, 9, 10, 65535, x.below(65536)), nil
	for range 1 + x.below(8) {
		p.Outs = append(p.Outs, x.below(len(p.Nodes)))
	}
	return p
}

// mixed is a plan with other numbers for its nodes.
func mixed(x source, p api.Plan) api.Plan {
	order := make([]int, len(p.Nodes)) // where each node comes to stand
	for i := range order {
		order[i] = i
	}
	for i := range order {
		j := i + x.below(len(order)-i)
		order[i], order[j] = order[j], order[i]
	}
	nodes := make([]api.Node, len(p.Nodes))
	for i, n := range p.Nodes {
		n.Ins = slices.Clone(n.Ins)
		for j, in := range n.Ins {
			n.Ins[j] = order[in]
		}
		nodes[order[i]] = n
	}
	p.Nodes = nodes
	return p
}

// drawStep is any step that can be told.
func drawStep(x source) api.Term {
	switch step := x.below(api.Ops); step {
	case api.OpCol:
		return col(drawNumber(x) & high)
	case api.OpInt:
		return number(drawNumber(x))
	case api.OpStr:
		return quoted(drawText(x))
	default:
		return op(step)
	}
}

// drawAnyPlan is a plan that has a text; mostly it may not be one.
func drawAnyPlan(x source) api.Plan {
	p := api.Plan{Room: drawNumber(x)}
	for range anyOf(x, 0, 1, 2, 5, x.below(65)) {
		n := api.Node{Kind: x.below(api.Nodes)}
		ins := map[int]int{api.NodeInput: 0, api.NodeConcat: 1 + x.below(8), api.NodeJoin: 2}
		count, ok := ins[n.Kind]
		if !ok {
			count = 1
		}
		for range count {
			n.Ins = append(n.Ins, drawNumber(x))
		}
		exprs := 1
		if n.Kind == api.NodeMap {
			exprs = anyOf(x, 0, 1, 2, x.below(17))
		}
		for range exprs {
			var l []api.Term
			for range 1 + anyOf(x, 0, 1, 3, x.below(64)) {
				l = append(l, drawStep(x))
			}
			n.Exprs = append(n.Exprs, l)
		}
		for range anyOf(x, 0, 1, 2, x.below(17)) {
			n.Cols = append(n.Cols, drawNumber(x))
		}
		n.Kinds = drawKinds(x)
		n.Key, n.N, n.Size, n.Slide = drawNumber(x), drawNumber(x), drawNumber(x), drawNumber(x)
		p.Nodes = append(p.Nodes, n)
	}
	for range anyOf(x, 0, 1, 2, x.below(9)) {
		p.Outs = append(p.Outs, drawNumber(x))
	}
	return askedTold(p)
}

// drawWord is one of those that stand in texts, or none.
func drawWord(x source) string {
	switch x.below(4) {
	case 0:
		return anyOf(x, strings.Fields(kindWords+" room out int str [ ]")...)
	case 1:
		return askedExpr([]api.Term{drawStep(x)})
	case 2:
		return anyOf(x, "", "?", "05", "-0", "-", "c", "c-1", "c01", "'%", "'%2", "'%41", "'%0A", "'\t", "roo", "room\r", "ints", "[1", "9223372036854775808")
	}
	return anyOf(x, "0", "1", "[", "]")
}

// spoilt is a text with something else somewhere: a byte, a word or a line.
func spoilt(x source, s string) string {
	if s == "" {
		return "x"
	}
	at := x.below(256)<<8 | x.below(256)
	at %= len(s)
	switch x.below(9) {
	case 0:
		return s[:at] + s[at+1:]
	case 1:
		return s[:at] + string([]byte{byte(x.below(256))}) + s[at+1:]
	case 2:
		return s[:at] + anyOf(x, " ", "\n", "0", "-", "%", "'", "[", "]", "\t", "\r", "x", "c") + s[at:]
	case 3:
		return s[:at]
	case 4:
		return s[:at] + drawWord(x) + anyOf(x, " ", "\n", "") + s[at:]
	case 5:
		l := cutWords(s)
		l[2*(at%(len(l)/2+1))] = drawWord(x)
		return strings.Join(l, "")
	case 6:
		l := cutWords(s)
		i, j := at%len(l), x.below(len(l))
		l[i], l[j] = l[j], l[i]
		return strings.Join(l, "")
	case 7:
		l := strings.SplitAfter(s, "\n")
		i, j := at%len(l), x.below(len(l))
		l[i], l[j] = l[j], l[i]
		return strings.Join(l, "")
	}
	l := strings.SplitAfter(s, "\n")
	return strings.Join(slices.Insert(l, x.below(len(l)+1), anyOf(x, l...)), "")
}

package plan_test

import (
	"container/heap"
	"slices"
	"sort"
	"strings"
	"testing"

	"runnel/api"
	"runnel/expr"
	"runnel/plan"
)

// fault is what Check tells of a plan.
type fault struct {
	e  api.Errno
	at int
}

// isAnyOf says the chapter's "from .. to" in other words than the program does.
func isAnyOf(x, from, to int) bool { return min(max(x, from), to) == x }

// shapeFaults are all faults of a plan's shape, in the order in which the chapter names them.
func shapeFaults(p api.Plan) []fault {
	var l []fault
	count := len(p.Nodes)
	add := func(wrong bool, e api.Errno, at int) {
		if wrong {
			l = append(l, fault{e, at})
		}
	}
	add(count > 64 || len(p.Outs) > 8, api.ErrMany, count)
	add(count == 0 || len(p.Outs) == 0 || !isAnyOf(p.Room, 1, 65536), api.ErrArg, count)
	for _, out := range p.Outs {
		add(!isAnyOf(out, 0, count-1), api.ErrRange, count)
	}
	for at, n := range p.Nodes {
		ins := len(n.Ins)
		add(!slices.Contains(allKinds(), n.Kind), api.ErrKind, at)
		switch n.Kind {
		case api.NodeInput:
			add(ins != 0, api.ErrArg, at)
		case api.NodeConcat:
			add(!isAnyOf(ins, 1, 8), api.ErrArg, at)
		case api.NodeJoin:
			add(ins != 2, api.ErrArg, at)
		default:
			add(ins != 1, api.ErrArg, at)
		}
		for _, in := range n.Ins {
			add(!isAnyOf(in, 0, count-1), api.ErrRange, at)
		}
	}
	return l
}

// loopFaults are all nodes that come to themselves, by a table of which node comes to which, made longer way by way.
func loopFaults(nodes []api.Node) []fault {
	var comes [api.MaxNodes][api.MaxNodes]bool
	for at, n := range nodes {
		for _, in := range n.Ins {
			comes[at][in] = true
		}
	}
	for over := range nodes {
		for from := range nodes {
			for to := range nodes {
				comes[from][to] = comes[from][to] || comes[from][over] && comes[over][to]
			}
		}
	}
	var l []fault
	for at := range nodes {
		if comes[at][at] {
			l = append(l, fault{api.ErrLoop, at})
		}
	}
	return l
}

// ready are the nodes whose ins stand all ahead, the least one on top.
type ready struct{ sort.IntSlice }

func (r *ready) Push(x any) { r.IntSlice = append(r.IntSlice, x.(int)) }

func (r *ready) Pop() any {
	last := r.IntSlice[len(r.IntSlice)-1]
	r.IntSlice = r.IntSlice[:len(r.IntSlice)-1]
	return last
}

// askedOrder goes by how many ins each node still waits for.
func askedOrder(nodes []api.Node) []int {
	var l []int
	next, waits := &ready{}, make([]int, len(nodes))
	for at, n := range nodes {
		if waits[at] = len(n.Ins); waits[at] == 0 {
			heap.Push(next, at)
		}
	}
	for next.Len() > 0 {
		done := heap.Pop(next).(int)
		l = append(l, done)
		for at, n := range nodes {
			for _, in := range n.Ins {
				if in != done {
					continue
				}
				if waits[at]--; waits[at] == 0 {
					heap.Push(next, at)
				}
			}
		}
	}
	return l
}

// letters are columns as a text: a letter of each kind.
func letters(kinds []int) string {
	var s strings.Builder
	for _, kind := range kinds {
		s.WriteString(map[int]string{num: "n", text: "t"}[kind])
	}
	return s.String()
}

// kindsOf is what letters made of it.
func kindsOf(s string) []int {
	var l []int
	for _, c := range s {
		l = append(l, strings.IndexRune("nt", c))
	}
	return l
}

// firstOf is the error of the first of several faults that is one.
func firstOf(l ...api.Errno) api.Errno {
	at := slices.IndexFunc(l, func(e api.Errno) bool { return e != api.OK })
	if at < 0 {
		return api.OK
	}
	return l[at]
}

func errIf(wrong bool, e api.Errno) api.Errno {
	if wrong {
		return e
	}
	return api.OK
}

// letterAt is the letter of a column, or none.
func letterAt(s string, at int) string {
	if at < 0 || at >= len(s) {
		return ""
	}
	return s[at : at+1]
}

// askedExprs is a letter for each expression, and the first error.
func askedExprs(l [][]api.Term, in string) (string, api.Errno) {
	made := ""
	for _, x := range l {
		kind, e, _ := expr.Type(x, kindsOf(in))
		if e != api.OK {
			return "", e
		}
		made += letters([]int{kind})
	}
	return made, api.OK
}

// askedGroup is what the chapter of groups says of a node's columns.
func askedGroup(n api.Node, in string) (string, api.Errno) {
	keys := errIf(!isAnyOf(n.Key, 0, len(in)), api.ErrRange)
	full := errIf(n.Key == 16, api.ErrMany)
	switch n.Kind {
	case api.NodeDistinct:
		return in, api.OK
	case api.NodeMin, api.NodeMax:
		return in, keys
	case api.NodeTop:
		return in, firstOf(keys, errIf(!isAnyOf(n.N, 1, 1000), api.ErrArg))
	case api.NodeSum:
		column := letterAt(in, n.N)
		keys = firstOf(keys, errIf(column == "", api.ErrRange), errIf(column != "n", api.ErrType))
	}
	if e := firstOf(keys, full); e != api.OK {
		return "", e
	}
	return in[:n.Key] + "n", api.OK
}

// askedWindow is what the chapter of windows says of a size and a slide.
func askedWindow(size, slide int) api.Errno {
	wrong := !isAnyOf(size, 1, 1<<40) || !isAnyOf(slide, 1, 1<<40)
	return firstOf(errIf(wrong, api.ErrArg), errIf(!wrong && (size+slide-1)/slide > 64, api.ErrMany))
}

// askedColumns is what the chapter says of a node's columns, over its ins' letters.
func askedColumns(n api.Node, ins []string) (string, api.Errno) {
	in := strings.Join(ins[:min(len(ins), 1)], "")
	switch n.Kind {
	case api.NodeInput:
		odd := slices.ContainsFunc(n.Kinds, func(kind int) bool { return kind != 0 && kind != 1 })
		return letters(n.Kinds), firstOf(errIf(len(n.Kinds) > 16, api.ErrMany), errIf(odd, api.ErrKind))
	case api.NodeMap:
		made, e := askedExprs(n.Exprs, in)
		return made, firstOf(errIf(len(n.Exprs) == 0, api.ErrArg), errIf(len(n.Exprs) > 16, api.ErrMany), e)
	case api.NodeFilter:
		made, e := askedExprs(n.Exprs, in)
		return in, firstOf(errIf(len(n.Exprs) != 1, api.ErrArg), e, errIf(made != "n", api.ErrType))
	case api.NodeProject:
		made := ""
		for _, at := range n.Cols {
			made += letterAt(in, at)
		}
		return made, firstOf(errIf(len(n.Cols) > 16, api.ErrMany), errIf(len(made) != len(n.Cols), api.ErrRange))
	case api.NodeConcat:
		return in, errIf(strings.Join(ins, ",") != strings.Join(many(len(ins), in), ","), api.ErrType)
	case api.NodeNegate, api.NodeConsolidate:
		return in, api.OK
	case api.NodeBucket:
		column := letterAt(in, n.N)
		return in + "n", firstOf(errIf(column == "", api.ErrRange), errIf(column == "t", api.ErrType), askedWindow(n.Size, n.Slide), errIf(len(in) == 16, api.ErrMany))
	case api.NodeArrange:
		return in, errIf(!isAnyOf(n.Key, 0, len(in)), api.ErrRange)
	case api.NodeJoin:
		return askedJoin(n.Key, in, ins[1])
	}
	return askedGroup(n, in)
}

func askedJoin(key int, a, b string) (string, api.Errno) {
	if !isAnyOf(key, 0, len(a)) || !isAnyOf(key, 0, len(b)) {
		return "", api.ErrRange
	}
	rest, alike := strings.CutPrefix(b, a[:key])
	if !alike {
		return "", api.ErrType
	}
	return a + rest, errIf(len(a+rest) > 16, api.ErrMany)
}

// asked is all that the chapter says of a plan.
func asked(p api.Plan) (f fault, kinds [][]int, order []int) {
	if l := shapeFaults(p); len(l) > 0 {
		return l[0], nil, nil
	}
	if l := loopFaults(p.Nodes); len(l) > 0 {
		return l[0], nil, nil
	}
	order = askedOrder(p.Nodes)
	columns := make([]string, len(p.Nodes))
	kinds = make([][]int, len(p.Nodes))
	for _, at := range order {
		var ins []string
		for _, in := range p.Nodes[at].Ins {
			ins = append(ins, columns[in])
		}
		made, e := askedColumns(p.Nodes[at], ins)
		if e != api.OK {
			return fault{e, at}, nil, nil
		}
		columns[at], kinds[at] = made, kindsOf(made)
	}
	return fault{api.OK, len(p.Nodes)}, kinds, order
}

// hold holds what is told of a plan against what is asked.
func hold(t *testing.T, p api.Plan) api.Errno {
	t.Helper()
	f, kinds, order := asked(p)
	if e, at := plan.Check(p); e != f.e || at != f.at {
		t.Errorf("Check(%+v) = %d, %d, want %v", p, e, at, f)
	}
	if got, e := plan.Kinds(p); !sameKinds(got, kinds) || e != f.e {
		t.Errorf("Kinds(%+v) = %v, %d, want %v, %d", p, got, e, kinds, f.e)
	}
	if got, e := plan.Order(p); !slices.Equal(got, order) || e != f.e {
		t.Errorf("Order(%+v) = %v, %d, want %v, %d", p, got, e, order, f.e)
	}
	holdLists(t, p)
	return f.e
}

// holdLists holds Inputs, Users and Group, which ask nothing of a plan.
func holdLists(t *testing.T, p api.Plan) {
	t.Helper()
	inputs := rising(len(p.Nodes))
	users := map[int][]int{}
	for at, n := range p.Nodes {
		if n.Kind != api.NodeInput {
			inputs = slices.DeleteFunc(inputs, func(x int) bool { return x == at })
		}
		for _, in := range n.Ins {
			users[in] = append(users[in], at)
		}
		kind, ok := plan.Group(n)
		if want := isAnyOf(n.Kind, api.NodeDistinct, api.NodeTop); ok != want || ok && kind != n.Kind-api.NodeDistinct || !ok && kind != 0 {
			t.Errorf("Group of the kind %d: %d, %v", n.Kind, kind, ok)
		}
	}
	if got := plan.Inputs(p); !slices.Equal(got, inputs) {
		t.Errorf("Inputs(%+v) = %v, want %v", p, got, inputs)
	}
	for node := -2; node < len(p.Nodes)+2; node++ {
		if got := plan.Users(p, node); !slices.Equal(got, users[node]) {
			t.Errorf("Users(%+v, %d) = %v, want %v", p, node, got, users[node])
		}
	}
}

// chance tells numbers that follow from one alone: the same ones whenever it is made.
type chance uint64

func (x *chance) below(bound int) int {
	*x = *x*6364136223846793005 + 1442695040888963407
	return int(uint64(*x)>>33) % bound
}

// expr is a short one, which over these columns is often right.
func (x *chance) expr(columns int) []api.Term {
	l := [][]api.Term{number(x.below(9)), word("a"), col(x.below(columns + 1)), col(x.below(columns + 1)), steps(col(x.below(columns+1)), api.OpLen),
		steps(slices.Concat(col(x.below(columns+1)), number(2)), api.OpMul), steps(slices.Concat(col(0), col(0)), api.OpEq)}
	return l[x.below(len(l))]
}

// node is one that is fed by some of those that are there, with numbers that are often right.
func (x *chance) node(columns []string) api.Node {
	n := api.Node{Kind: x.below(api.Nodes), Key: x.below(4), N: x.below(4), Size: 1 + x.below(30), Slide: 1 + x.below(9)}
	if len(columns) == 0 || x.below(5) == 0 {
		n.Kind = api.NodeInput
	}
	ins := map[int]int{api.NodeInput: 0, api.NodeConcat: 1 + x.below(4), api.NodeJoin: 2}
	count, there := ins[n.Kind]
	if !there {
		count = 1
	}
	for range count {
		n.Ins = append(n.Ins, x.below(len(columns)))
	}
	width := 3
	if count > 0 {
		width = len(columns[n.Ins[0]])
	}
	for range x.below(5) {
		n.Kinds = append(n.Kinds, x.below(2))
		n.Cols = append(n.Cols, x.below(width+1))
	}
	for range 1 + x.below(2) {
		n.Exprs = append(n.Exprs, x.expr(width))
	}
	return n
}

// good is a plan that may be, of so many nodes, each fed by those ahead of it.
func (x *chance) good(count int) api.Plan {
	var nodes []api.Node
	var columns []string
	for len(nodes) < count {
		n := x.node(columns)
		var ins []string
		for _, in := range n.Ins {
			ins = append(ins, columns[in])
		}
		if made, e := askedColumns(n, ins); e == api.OK {
			nodes, columns = append(nodes, n), append(columns, made)
		}
	}
	p := api.Plan{Nodes: nodes, Room: 1 + x.below(api.MaxRoom)}
	for range 1 + x.below(api.MaxOuts) {
		p.Outs = append(p.Outs, x.below(count))
	}
	return p
}

// order is the numbers below count in any order.
func (x *chance) order(count int) []int {
	l := rising(count)
	for i := range l {
		other := i + x.below(count-i)
		l[i], l[other] = l[other], l[i]
	}
	return l
}

// renumbered is the plan with each node at another place.
func renumbered(p api.Plan, to []int) api.Plan {
	q := api.Plan{Nodes: make([]api.Node, len(p.Nodes)), Room: p.Room}
	for at, n := range p.Nodes {
		n.Ins = slices.Clone(n.Ins)
		for i, in := range n.Ins {
			n.Ins[i] = to[in]
		}
		q.Nodes[to[at]] = n
	}
	for _, out := range p.Outs {
		q.Outs = append(q.Outs, to[out])
	}
	return q
}

// number is one that may be anything, mostly something small.
func (x *chance) number() int {
	if x.below(4) == 0 {
		l := append(strange(), 63, 64, 65, api.MaxTop, api.MaxTop+1, api.MaxRoom, api.MaxRoom+1, api.MaxSpan, api.MaxSpan+1)
		return l[x.below(len(l))]
	}
	return x.below(21) - 2
}

// spoil turns one thing of a plan, of which the lists are its own.
func (x *chance) spoil(p *api.Plan) {
	n := &p.Nodes[x.below(len(p.Nodes))]
	if x.below(2) == 0 {
		// Often one that has Exprs, for few have.
		for at := range p.Nodes {
			if len(p.Nodes[at].Ins) == 1 && isAnyOf(p.Nodes[at].Kind, api.NodeMap, api.NodeFilter) {
				n = &p.Nodes[at]
			}
		}
	}
	switch x.below(16) {
	case 0:
		p.Room = x.number()
	case 1:
		p.Outs = append(p.Outs, x.number())
	case 2:
		p.Outs = p.Outs[:x.below(len(p.Outs)+1)]
	case 3:
		n.Kind = x.number()
	case 4, 5:
		n.Kind = x.below(api.Nodes)
	case 6:
		n.Ins = append(slices.Clone(n.Ins), x.below(len(p.Nodes)))
	case 7, 8:
		if len(n.Ins) > 0 {
			n.Ins = slices.Clone(n.Ins)
			n.Ins[x.below(len(n.Ins))] = x.below(len(p.Nodes))
		}
	case 9:
		n.Ins = append(slices.Clone(n.Ins[:len(n.Ins)/2]), x.number())
	case 10:
		n.Kinds = append(slices.Clone(n.Kinds), many(1+x.below(16), x.below(3)%2*x.number())...)
	case 11:
		n.Cols = append(slices.Clone(n.Cols), many(1+x.below(16), x.number())...)
	case 12:
		l := [][]api.Term{nil, steps(nil, x.number()), col(x.number()), steps(number(1), x.below(19)), steps(number(0), many(70, api.OpNot)...), word(strings.Repeat("x", 4097))}
		n.Exprs = append(slices.Clone(n.Exprs[:len(n.Exprs)/2]), many(1+x.below(16), l[x.below(len(l))])...)
	case 13:
		n.Key = x.number()
	case 14:
		n.N = x.number()
	case 15:
		n.Size, n.Slide = x.number(), x.number()
	}
}

func TestDrawnPlans(t *testing.T) { // P16.1 to P16.4: good ones, in numbers that rise and in any order, and spoilt ones
	x := chance(16)
	seen := map[api.Errno]int{}
	for round := range 6000 {
		count := 1 + x.below(9)
		if round%50 == 0 {
			count = 40 + x.below(25)
		}
		p := x.good(count)
		if e := hold(t, p); e != api.OK {
			t.Fatalf("a good plan: error %d: %+v", e, p)
		}
		p = renumbered(p, x.order(count))
		if e := hold(t, p); e != api.OK {
			t.Fatalf("a good plan in another order: error %d: %+v", e, p)
		}
		for range 3 {
			x.spoil(&p)
			seen[hold(t, p)]++
		}
		if t.Failed() {
			return
		}
	}
	for _, e := range []api.Errno{api.OK, api.ErrArg, api.ErrMany, api.ErrKind, api.ErrRange, api.ErrType, api.ErrLoop, api.ErrForm, api.ErrLong} {
		if seen[e] < 5 {
			t.Errorf("of the spoilt plans only %d have the error %d", seen[e], e)
		}
	}
}

func TestColumnsGoWithTheirNodes(t *testing.T) { // P16.2: whatever the numbers are, a node's columns are the same
	x := chance(160)
	for range 500 {
		count := 1 + x.below(20)
		p, to := x.good(count), x.order(count)
		kinds, _ := plan.Kinds(p)
		other, e := plan.Kinds(renumbered(p, to))
		for at := range p.Nodes {
			if e != api.OK || !slices.Equal(kinds[at], other[to[at]]) {
				t.Fatalf("%+v: the node %d has %v, at the place %d %v, error %d", p, at, kinds[at], to[at], other, e)
			}
		}
	}
}

// orders are all of a list's.
func orders(l []int) [][]int {
	if len(l) == 0 {
		return [][]int{{}}
	}
	var all [][]int
	for i := range l {
		for _, rest := range orders(slices.Delete(slices.Clone(l), i, i+1)) {
			all = append(all, append([]int{l[i]}, rest...))
		}
	}
	return all
}

// isOrder: does each node stand behind its ins?
func isOrder(nodes []api.Node, order []int) bool {
	for place, at := range order {
		for _, in := range nodes[at].Ins {
			if slices.Index(order, in) > place {
				return false
			}
		}
	}
	return true
}

func TestOrderIsTheLeast(t *testing.T) { // P16.3: of all orders with each node behind its ins, the one with the least numbers first
	x := chance(1616)
	for range 60 {
		count := 1 + x.below(6)
		p := x.good(count)
		all := orders(rising(count))
		for _, to := range all {
			q := renumbered(p, to)
			if len(all) > 30 && x.below(len(all)) > 30 {
				continue
			}
			var right [][]int
			for _, order := range all {
				if isOrder(q.Nodes, order) {
					right = append(right, order)
				}
			}
			if got, e := plan.Order(q); e != api.OK || !slices.Equal(got, slices.MinFunc(right, slices.Compare[[]int])) {
				t.Fatalf("Order(%+v) = %v, %d", q, got, e)
			}
		}
	}
}

func TestWhatFollows(t *testing.T) { // P16.4
	x := chance(4)
	for range 3000 {
		count := 1 + x.below(64)
		nodes := make([]api.Node, count)
		for at := range nodes {
			n := x.node(many(at, "")) // only ins with lower numbers, whatever else is wrong
			nodes[at] = n
		}
		p := planOf(nodes...)
		if e, at := plan.Check(p); e == api.ErrLoop {
			t.Fatalf("ErrLoop at %d: %+v", at, p)
		}
		for at := range nodes {
			if n := &nodes[at]; n.Kind != api.NodeInput {
				n.Kind = api.NodeConcat
			}
			nodes[at].Kinds = []int{num}
		}
		p = renumbered(p, x.order(count))
		order, e := plan.Order(p)
		if sorted := slices.Sorted(slices.Values(order)); e != api.OK || !slices.Equal(sorted, rising(count)) || !isOrder(p.Nodes, order) {
			t.Fatalf("Order(%+v) = %v, %d", p, order, e)
		}
	}
}

func TestLoopsDrawn(t *testing.T) { // P16.1: nodes that are fed by any
	x := chance(44)
	seen := map[api.Errno]int{}
	for range 5000 {
		count := 1 + x.below(10)
		inputs := 1 + x.below(count)
		nodes := many(count, input(num))
		for _, at := range x.order(count)[inputs:] {
			nodes[at] = concat(x.below(count))
			if x.below(3) == 0 {
				nodes[at].Ins = append(nodes[at].Ins, x.below(count))
			}
		}
		seen[hold(t, planOf(nodes...))]++
	}
	if seen[api.OK] < 500 || seen[api.ErrLoop] < 500 || len(seen) != 2 {
		t.Errorf("%v", seen)
	}
}

// fromBytes is a plan of as many nodes as the bytes make, with numbers that are small or at an edge.
func fromBytes(b []byte) api.Plan {
	take := func() int {
		if len(b) == 0 {
			return 0
		}
		c := int(b[0])
		if b = b[1:]; c >= 240 {
			l := append(strange(), api.MaxSpan, api.MaxSpan+1, api.MaxTop, api.MaxTop+1, 64, 65)
			return l[c-240]
		}
		return c%20 - 1
	}
	list := func() []int {
		var l []int
		for range take() % 18 {
			l = append(l, take())
		}
		return l
	}
	p := api.Plan{Room: take(), Outs: list()}
	for len(b) > 0 && len(p.Nodes) < 70 {
		n := api.Node{Kind: take(), Ins: list(), Kinds: list(), Cols: list(), Key: take(), N: take(), Size: take(), Slide: take()}
		for range take() % 18 {
			var l []api.Term
			for range take() % 18 {
				l = append(l, api.Term{Op: take(), Int: take()})
			}
			n.Exprs = append(n.Exprs, l)
		}
		p.Nodes = append(p.Nodes, n)
	}
	return p
}

func FuzzPlans(f *testing.F) { // P16.1 to P16.4
	f.Add([]byte{11, 2, 2, 1, 3, 1, 2, 1, 1, 1, 1, 1, 1, 10, 2, 1, 1, 1, 1, 1, 1, 1, 1})
	f.Add([]byte{2, 2, 1, 6, 2, 1, 1, 1, 1, 1, 1, 1, 1})
	f.Add([]byte{2, 2, 1, 1, 1, 1, 1, 1, 1, 1, 1, 1, 2, 2, 1, 1, 1, 1, 1, 1, 1, 2, 2, 2, 5})
	f.Add([]byte{})
	f.Fuzz(func(t *testing.T, b []byte) {
		if len(b) > 2000 {
			return
		}
		p := fromBytes(b)
		hold(t, p)
		// Also folded to a shape that may be, for most are none.
		if p.Nodes = p.Nodes[:min(len(p.Nodes), 64)]; len(p.Nodes) == 0 {
			return
		}
		p.Room, p.Outs = 1, []int{0}
		for at, n := range p.Nodes {
			n.Kind = (n.Kind%16 + 16) % 16
			least := map[int]int{api.NodeInput: 0, api.NodeJoin: 2}
			count, there := least[n.Kind]
			if !there {
				count = 1
			}
			n.Ins = append(n.Ins, at-1, at-1)[:count]
			for i, in := range n.Ins {
				n.Ins[i] = (in%len(p.Nodes) + len(p.Nodes)) % len(p.Nodes)
			}
			p.Nodes[at] = n
		}
		hold(t, p)
	})
}

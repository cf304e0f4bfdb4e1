package plan_test

import (
	"fmt"
	"math"
	"slices"
	"strings"
	"testing"

	"runnel/api"
	"runnel/plan"
)

const (
	low  = math.MinInt
	high = math.MaxInt
	num  = api.KindInt
	text = api.KindStr
)

func input(kinds ...int) api.Node         { return api.Node{Kind: api.NodeInput, Kinds: kinds} }
func mapped(exprs ...[]api.Term) api.Node { return api.Node{Kind: api.NodeMap, Exprs: exprs} }
func filter(exprs ...[]api.Term) api.Node { return api.Node{Kind: api.NodeFilter, Exprs: exprs} }
func project(cols ...int) api.Node        { return api.Node{Kind: api.NodeProject, Cols: cols} }
func plain(kind int) api.Node             { return api.Node{Kind: kind} }
func keyed(kind, key, n int) api.Node     { return api.Node{Kind: kind, Key: key, N: n} }
func bucket(col, size, slide int) api.Node {
	return api.Node{Kind: api.NodeBucket, N: col, Size: size, Slide: slide}
}
func fed(n api.Node, ins ...int) api.Node { n.Ins = ins; return n }
func negate(in int) api.Node              { return fed(plain(api.NodeNegate), in) }
func concat(ins ...int) api.Node          { return fed(plain(api.NodeConcat), ins...) }
func join(a, b, key int) api.Node         { return fed(keyed(api.NodeJoin, key, 0), a, b) }
func col(i int) []api.Term                { return []api.Term{{Op: api.OpCol, Int: i}} }
func number(x int) []api.Term             { return []api.Term{{Op: api.OpInt, Int: x}} }
func word(x string) []api.Term            { return []api.Term{{Op: api.OpStr, Str: x}} }
func steps(l []api.Term, ops ...int) (m []api.Term) {
	m = slices.Clone(l)
	for _, op := range ops {
		m = append(m, api.Term{Op: op})
	}
	return m
}

// many is so many of one thing.
func many[T any](count int, x T) []T { return slices.Repeat([]T{x}, count) }

// planOf is a plan whose last node is its out.
func planOf(nodes ...api.Node) api.Plan {
	return api.Plan{Nodes: nodes, Outs: []int{len(nodes) - 1}, Room: 10}
}

// strange are numbers that are hardly anything.
func strange() []int { return []int{low, low + 1, -100, -2, -1, 100, 1 << 40, 1 << 62, high - 1, high} }

// allKinds are the kinds of nodes that there are.
func allKinds() []int {
	return []int{api.NodeInput, api.NodeMap, api.NodeFilter, api.NodeProject, api.NodeConcat, api.NodeNegate, api.NodeConsolidate, api.NodeBucket,
		api.NodeArrange, api.NodeDistinct, api.NodeCount, api.NodeSum, api.NodeMin, api.NodeMax, api.NodeTop, api.NodeJoin}
}

// sameKinds: are they, node by node? Nil and empty lists are alike.
func sameKinds(a, b [][]int) bool { return slices.EqualFunc(a, b, slices.Equal[[]int]) }

// holdGood holds a plan that may be against its columns and its order, told by hand.
func holdGood(t *testing.T, p api.Plan, kinds [][]int, order []int) {
	t.Helper()
	if e, at := plan.Check(p); e != api.OK || at != len(p.Nodes) {
		t.Errorf("Check(%+v) = %d, %d, want OK, %d", p, e, at, len(p.Nodes))
	}
	if got, e := plan.Kinds(p); !sameKinds(got, kinds) || e != api.OK {
		t.Errorf("Kinds(%+v) = %v, %d, want %v", p, got, e, kinds)
	}
	if got, e := plan.Order(p); !slices.Equal(got, order) || e != api.OK {
		t.Errorf("Order(%+v) = %v, %d, want %v", p, got, e, order)
	}
}

// holdBad holds a plan that may not be against its fault: beside it nothing but the place is told.
func holdBad(t *testing.T, name string, p api.Plan, want api.Errno, place int) {
	t.Helper()
	if e, at := plan.Check(p); e != want || at != place {
		t.Errorf("%s: Check = %d, %d, want %d, %d", name, e, at, want, place)
	}
	if got, e := plan.Kinds(p); len(got) != 0 || e != want {
		t.Errorf("%s: Kinds = %v, %d, want nothing, %d", name, got, e, want)
	}
	if got, e := plan.Order(p); len(got) != 0 || e != want {
		t.Errorf("%s: Order = %v, %d, want nothing, %d", name, got, e, want)
	}
}

func TestThePage(t *testing.T) { // P16.1 to P16.3: the page's example
	p := planOf(input(num), fed(plain(api.NodeDistinct), 0), join(0, 1, 1))
	holdGood(t, p, [][]int{{num}, {num}, {num}}, []int{0, 1, 2})
	p.Nodes[1].Ins = []int{1}
	holdBad(t, "a node that is its own in", p, api.ErrLoop, 1)
}

// everyKind is a plan with a node of every kind, in no order, with numbers that play no part laid in.
func everyKind() api.Plan {
	sizes := steps(append(col(0), api.Term{Op: api.OpLen}, api.Term{Op: api.OpCol, Int: 1}), api.OpAdd)
	return api.Plan{Nodes: []api.Node{
		fed(keyed(api.NodeTop, 1, 3), 9),         // 0
		join(15, 7, 1),                           // 1
		fed(keyed(api.NodeSum, 1, 2), 9),         // 2
		fed(bucket(1, 10, 5), 4),                 // 3
		input(text, num),                         // 4
		fed(filter(col(1)), 4),                   // 5
		fed(mapped(col(0), sizes, word("x")), 5), // 6
		fed(project(0, 2, 0), 6),                 // 7
		concat(3, 3, 3),                          // 8
		negate(8),                                // 9
		fed(plain(api.NodeConsolidate), 2),       // 10
		fed(keyed(api.NodeArrange, 2, 0), 10),    // 11
		fed(keyed(api.NodeDistinct, -7, -7), 7),  // 12
		fed(keyed(api.NodeMin, 0, -1), 7),        // 13
		fed(keyed(api.NodeMax, 3, 5000), 1),      // 14
		fed(keyed(api.NodeCount, 1, -1), 11),     // 15
	}, Outs: []int{14, 0, 12, 14, 4}, Room: 65536}
}

func TestEveryKind(t *testing.T) { // P16.2, P16.3: told by hand
	window := []int{text, num, num}
	holdGood(t, everyKind(), [][]int{
		window, {text, num, text, text}, {text, num}, window, {text, num}, {text, num}, {text, num, text}, {text, text, text},
		window, window, {text, num}, {text, num}, {text, text, text}, {text, text, text}, {text, num, text, text}, {text, num},
	}, []int{4, 3, 5, 6, 7, 8, 9, 0, 2, 10, 11, 12, 13, 15, 1, 14})
	if got := plan.Inputs(everyKind()); !slices.Equal(got, []int{4}) {
		t.Errorf("Inputs = %v", got)
	}
	seen := map[int]int{}
	for _, n := range everyKind().Nodes {
		seen[n.Kind]++
	}
	if len(seen) != api.Nodes || len(allKinds()) != api.Nodes {
		t.Errorf("%d kinds of %d", len(seen), api.Nodes)
	}
}

// around is a plan of inputs and one node that is fed by all of them: behind them, or ahead of them, with others that play no part.
func around(ins [][]int, n api.Node, ahead bool) (p api.Plan, at int) {
	var inputs []api.Node
	n.Ins = nil
	for i, kinds := range ins {
		inputs = append(inputs, input(kinds...))
		if n.Ins = append(n.Ins, i); ahead {
			n.Ins[i] += 2
		}
	}
	if ahead {
		return planOf(slices.Concat([]api.Node{input(text), n}, inputs, []api.Node{input(num)})...), 1
	}
	return planOf(append(inputs, n)...), len(ins)
}

// made is a node over ins with these columns, and what comes of it.
type made struct {
	name string
	ins  [][]int
	node api.Node
	want []int
	e    api.Errno
}

// hold holds it both behind and ahead of its ins.
func (m made) hold(t *testing.T) {
	t.Helper()
	for _, ahead := range []bool{false, true} {
		p, at := around(m.ins, m.node, ahead)
		if m.e != api.OK {
			holdBad(t, m.name, p, m.e, at)
			continue
		}
		got, e := plan.Kinds(p)
		if e != api.OK || len(got) != len(p.Nodes) || !slices.Equal(got[at], m.want) {
			t.Errorf("%s: Kinds = %v, %d, want %v at %d", m.name, got, e, m.want, at)
		}
		if e, place := plan.Check(p); e != api.OK || place != len(p.Nodes) {
			t.Errorf("%s: Check = %d, %d", m.name, e, place)
		}
	}
}

// numbers are columns that are all of them.
func numbers(count int) []int { return many(count, num) }

// simpleMade are nodes whose columns hang on no key.
func simpleMade() []made {
	one, two := [][]int{{num}}, [][]int{{text, num}}
	return []made{
		{"a map to one column", two, mapped(col(1)), []int{num}, api.OK},
		{"a map to several", two, mapped(col(1), col(0), number(5), word("a"), steps(col(0), api.OpLen)), []int{num, text, num, text, num}, api.OK},
		{"a map to MaxCols", two, mapped(many(api.MaxCols, col(0))...), many(api.MaxCols, text), api.OK},
		{"a map of no column", [][]int{{}}, mapped(number(1), word("")), []int{num, text}, api.OK},
		{"a map of the last of MaxCols columns", [][]int{append(numbers(15), text)}, mapped(col(15)), []int{text}, api.OK},
		{"a map of MaxTerms steps", one, mapped(append(number(1), slices.Repeat([]api.Term{{Op: api.OpNot}}, 63)...)), []int{num}, api.OK},
		{"a map of a text of MaxText", one, mapped(word(strings.Repeat("x", api.MaxText))), []int{text}, api.OK},
		{"a map of the least and the greatest number", one, mapped(number(low), number(high)), []int{num, num}, api.OK},
		{"a filter", two, filter(col(1)), []int{text, num}, api.OK},
		{"a filter by texts", two, filter(steps(append(col(0), word("a")...), api.OpEq)), []int{text, num}, api.OK},
		{"a filter of no column", [][]int{{}}, filter(number(0)), nil, api.OK},
		{"a filter of MaxCols", [][]int{numbers(16)}, filter(col(15)), numbers(16), api.OK},
		{"a project of no column", two, project(), nil, api.OK},
		{"a project of one", two, project(1), []int{num}, api.OK},
		{"a project turned round", two, project(1, 0), []int{num, text}, api.OK},
		{"a project of one column several times", two, project(0, 0, 1, 0), []int{text, text, num, text}, api.OK},
		{"a project of MaxCols", two, project(many(api.MaxCols, 0)...), many(api.MaxCols, text), api.OK},
		{"a project of the last of MaxCols", [][]int{append(numbers(15), text)}, project(15, 14), []int{text, num}, api.OK},
		{"a project of nothing to nothing", [][]int{{}}, project(), nil, api.OK},
		{"a concat of 1", two, concat(), []int{text, num}, api.OK},
		{"a concat of 2", [][]int{{text, num}, {text, num}}, concat(), []int{text, num}, api.OK},
		{"a concat of MaxIns", many(api.MaxIns, []int{num, text}), concat(), []int{num, text}, api.OK},
		{"a concat of no columns", many(3, []int{}), concat(), nil, api.OK},
		{"a concat of MaxCols columns", many(2, append(numbers(15), text)), concat(), append(numbers(15), text), api.OK},
		{"a negate", two, plain(api.NodeNegate), []int{text, num}, api.OK},
		{"a negate of no column", [][]int{{}}, plain(api.NodeNegate), nil, api.OK},
		{"a negate of MaxCols", [][]int{numbers(16)}, plain(api.NodeNegate), numbers(16), api.OK},
		{"a consolidate", two, plain(api.NodeConsolidate), []int{text, num}, api.OK},
		{"a consolidate of no column", [][]int{{}}, plain(api.NodeConsolidate), nil, api.OK},
		{"a consolidate of MaxCols", [][]int{many(16, text)}, plain(api.NodeConsolidate), many(16, text), api.OK},
		{"a bucket of the first column", [][]int{{num, text}}, bucket(0, 10, 5), []int{num, text, num}, api.OK},
		{"a bucket of the last column", [][]int{{text, text, num}}, bucket(2, 10, 5), []int{text, text, num, num}, api.OK},
		{"a bucket of MaxCols - 1 columns", [][]int{numbers(15)}, bucket(14, 1, 1), numbers(16), api.OK},
		{"a bucket with the greatest size", one, bucket(0, api.MaxSpan, api.MaxSpan/api.MaxWindows), []int{num, num}, api.OK},
		{"a bucket with the greatest slide", one, bucket(0, 1, api.MaxSpan), []int{num, num}, api.OK},
		{"a bucket with MaxWindows", one, bucket(0, 64*7, 7), []int{num, num}, api.OK},
	}
}

// keyedMade are nodes that have a key.
func keyedMade() []made {
	two, none := [][]int{{text, num}}, [][]int{{}}
	return []made{
		{"arrange with the key 0", two, keyed(api.NodeArrange, 0, 0), []int{text, num}, api.OK},
		{"arrange with a key", two, keyed(api.NodeArrange, 1, 0), []int{text, num}, api.OK},
		{"arrange with all columns", two, keyed(api.NodeArrange, 2, 0), []int{text, num}, api.OK},
		{"arrange with MaxCols columns", [][]int{numbers(16)}, keyed(api.NodeArrange, 16, 0), numbers(16), api.OK},
		{"arrange of no column", none, keyed(api.NodeArrange, 0, 0), nil, api.OK},
		{"distinct", two, keyed(api.NodeDistinct, 0, 0), []int{text, num}, api.OK},
		{"distinct, the key not asked", two, keyed(api.NodeDistinct, -1, low), []int{text, num}, api.OK},
		{"distinct, the greatest key", two, keyed(api.NodeDistinct, high, high), []int{text, num}, api.OK},
		{"distinct of no column", none, keyed(api.NodeDistinct, 0, 0), nil, api.OK},
		{"count with the key 0", two, keyed(api.NodeCount, 0, 0), []int{num}, api.OK},
		{"count with a key", two, keyed(api.NodeCount, 1, 99), []int{text, num}, api.OK},
		{"count with all columns", two, keyed(api.NodeCount, 2, low), []int{text, num, num}, api.OK},
		{"count with MaxCols - 1 of MaxCols", [][]int{many(16, text)}, keyed(api.NodeCount, 15, 0), append(many(15, text), num), api.OK},
		{"count of no column", none, keyed(api.NodeCount, 0, 0), []int{num}, api.OK},
		{"sum with the key 0", two, keyed(api.NodeSum, 0, 1), []int{num}, api.OK},
		{"sum with a key", two, keyed(api.NodeSum, 1, 1), []int{text, num}, api.OK},
		{"sum of the first column", [][]int{{num, text, text}}, keyed(api.NodeSum, 2, 0), []int{num, text, num}, api.OK},
		{"sum with MaxCols - 1 of MaxCols", [][]int{numbers(16)}, keyed(api.NodeSum, 15, 15), numbers(16), api.OK},
		{"min", two, keyed(api.NodeMin, 1, low), []int{text, num}, api.OK},
		{"min with the key 0", two, keyed(api.NodeMin, 0, high), []int{text, num}, api.OK},
		{"min with all of MaxCols", [][]int{numbers(16)}, keyed(api.NodeMin, 16, 0), numbers(16), api.OK},
		{"max", two, keyed(api.NodeMax, 2, low), []int{text, num}, api.OK},
		{"max of no column", none, keyed(api.NodeMax, 0, 0), nil, api.OK},
		{"top of 1", two, keyed(api.NodeTop, 1, 1), []int{text, num}, api.OK},
		{"top of MaxTop", two, keyed(api.NodeTop, 0, api.MaxTop), []int{text, num}, api.OK},
		{"join with the key 0", [][]int{{text}, {num, num}}, keyed(api.NodeJoin, 0, 0), []int{text, num, num}, api.OK},
		{"join with a key", [][]int{{num, text}, {num, num}}, keyed(api.NodeJoin, 1, 0), []int{num, text, num}, api.OK},
		{"join with all of the first one", [][]int{{num}, {num, text}}, keyed(api.NodeJoin, 1, 0), []int{num, text}, api.OK},
		{"join with all of the second one", [][]int{{num, text, text}, {num, text}}, keyed(api.NodeJoin, 2, 0), []int{num, text, text}, api.OK},
		{"join with all of both", [][]int{{num, text}, {num, text}}, keyed(api.NodeJoin, 2, 0), []int{num, text}, api.OK},
		{"join of no columns", [][]int{{}, {}}, keyed(api.NodeJoin, 0, 0), nil, api.OK},
		{"join of none and some", [][]int{{}, {text}}, keyed(api.NodeJoin, 0, 0), []int{text}, api.OK},
		{"join to just MaxCols without a key", [][]int{numbers(8), many(8, text)}, keyed(api.NodeJoin, 0, 0), append(numbers(8), many(8, text)...), api.OK},
		{"join to just MaxCols with a key", [][]int{numbers(10), append(numbers(4), many(6, text)...)}, keyed(api.NodeJoin, 4, 0), append(numbers(10), many(6, text)...), api.OK},
		{"join of MaxCols with MaxCols", [][]int{numbers(16), numbers(16)}, keyed(api.NodeJoin, 16, 0), numbers(16), api.OK},
	}
}

func TestKindsOfEach(t *testing.T) { // P16.2: told by hand
	for _, m := range append(simpleMade(), keyedMade()...) {
		m.hold(t)
	}
	for _, kinds := range [][]int{{}, {num}, {text}, {text, num, text}, numbers(16), many(16, text)} {
		holdGood(t, planOf(input(kinds...)), [][]int{kinds}, []int{0})
	}
}

// mapFaults are those of inputs, maps, filters and projects.
func mapFaults() []made {
	two := [][]int{{text, num}}
	long := steps(number(1), many(64, api.OpNot)...)
	deep := slices.Repeat(number(1), 17)
	return []made{
		{"a map of no Exprs", two, mapped(), nil, api.ErrArg},
		{"a map of too many", two, mapped(many(17, col(0))...), nil, api.ErrMany},
		{"a map of too many, and these wrong", two, mapped(make([][]api.Term, 17)...), nil, api.ErrMany},
		{"a map of no steps", two, mapped(col(0), nil), nil, api.ErrArg},
		{"a map of too many steps", two, mapped(long), nil, api.ErrMany},
		{"a map of too many values at once", two, mapped(deep), nil, api.ErrMany},
		{"a map of no such step", two, mapped(steps(nil, api.Ops)), nil, api.ErrKind},
		{"a map of the step -1", two, mapped(col(0), steps(nil, -1)), nil, api.ErrKind},
		{"a map of no such column", two, mapped(col(2)), nil, api.ErrRange},
		{"a map of the column -1", two, mapped(col(-1)), nil, api.ErrRange},
		{"a map of the last column but one too far", [][]int{numbers(16)}, mapped(col(16)), nil, api.ErrRange},
		{"a map of a column of none", [][]int{{}}, mapped(col(0)), nil, api.ErrRange},
		{"a map of too long a text", two, mapped(word(strings.Repeat("x", api.MaxText+1))), nil, api.ErrLong},
		{"a map that takes what is not there", two, mapped(steps(number(1), api.OpAdd)), nil, api.ErrForm},
		{"a map that leaves two values", two, mapped(slices.Concat(number(1), number(2))), nil, api.ErrForm},
		{"a map of another kind", two, mapped(steps(col(0), api.OpNeg)), nil, api.ErrType},
		{"a map of two wrong ones, the first", two, mapped(col(1), col(9), nil), nil, api.ErrRange},
		{"a map of two wrong ones, turned round", two, mapped(col(1), nil, col(9)), nil, api.ErrArg},
		{"a filter of no Exprs", two, filter(), nil, api.ErrArg},
		{"a filter of two", two, filter(col(1), col(1)), nil, api.ErrArg},
		{"a filter of two, and these wrong", two, filter(col(9), nil), nil, api.ErrArg},
		{"a filter of 17", two, filter(many(17, col(1))...), nil, api.ErrArg},
		{"a filter of a text", two, filter(col(0)), nil, api.ErrType},
		{"a filter of a text that is told", two, filter(word("1")), nil, api.ErrType},
		{"a filter of no steps", two, filter(nil), nil, api.ErrArg},
		{"a filter of too many steps", two, filter(long), nil, api.ErrMany},
		{"a filter of no such column", two, filter(col(2)), nil, api.ErrRange},
		{"a filter of no such step", two, filter(steps(nil, 19)), nil, api.ErrKind},
		{"a filter of too long a text", two, filter(word(strings.Repeat("x", api.MaxText+1))), nil, api.ErrLong},
		{"a filter that leaves two values", two, filter(slices.Concat(number(1), number(2))), nil, api.ErrForm},
		{"a filter of another kind on the way", two, filter(steps(col(0), api.OpNot)), nil, api.ErrType},
		{"a project of too many", two, project(many(17, 0)...), nil, api.ErrMany},
		{"a project of too many, and these wrong", two, project(many(17, 9)...), nil, api.ErrMany},
		{"a project of the column -1", two, project(0, -1), nil, api.ErrRange},
		{"a project of just as many as there are", two, project(0, 1, 2), nil, api.ErrRange},
		{"a project of a column of none", [][]int{{}}, project(0), nil, api.ErrRange},
	}
}

// otherFaults are those of nodes of the other kinds.
func otherFaults() []made {
	two, full := [][]int{{text, num}}, [][]int{numbers(16)}
	return []made{
		{"a concat of other kinds", [][]int{{text}, {num}}, concat(), nil, api.ErrType},
		{"a concat of fewer columns", [][]int{{text, num}, {text}}, concat(), nil, api.ErrType},
		{"a concat of more columns", [][]int{{text}, {text, num}}, concat(), nil, api.ErrType},
		{"a concat of none and some", [][]int{{}, {num}}, concat(), nil, api.ErrType},
		{"a concat of some and none", [][]int{{num}, {}}, concat(), nil, api.ErrType},
		{"a concat whose last one is another", append(many(7, []int{num}), []int{text}), concat(), nil, api.ErrType},
		{"a concat whose first one is another", append([][]int{{text}}, many(7, []int{num})...), concat(), nil, api.ErrType},
		{"a concat turned round", [][]int{{text, num}, {num, text}}, concat(), nil, api.ErrType},
		{"a bucket of no column", [][]int{{}}, bucket(0, 1, 1), nil, api.ErrRange},
		{"a bucket of the column -1", two, bucket(-1, 1, 1), nil, api.ErrRange},
		{"a bucket of just as many as there are", two, bucket(2, 1, 1), nil, api.ErrRange},
		{"a bucket of no column, and a size that may not be", two, bucket(2, 0, 0), nil, api.ErrRange},
		{"a bucket of a text", two, bucket(0, 1, 1), nil, api.ErrType},
		{"a bucket of a text, and a size that may not be", two, bucket(0, 0, 0), nil, api.ErrType},
		{"a bucket of the size 0", two, bucket(1, 0, 1), nil, api.ErrArg},
		{"a bucket of the slide 0", two, bucket(1, 1, 0), nil, api.ErrArg},
		{"a bucket of too great a size", two, bucket(1, api.MaxSpan+1, api.MaxSpan), nil, api.ErrArg},
		{"a bucket of too great a slide", two, bucket(1, 1, api.MaxSpan+1), nil, api.ErrArg},
		{"a bucket of too many windows", two, bucket(1, 65, 1), nil, api.ErrMany},
		{"a bucket of MaxCols columns", full, bucket(0, 1, 1), nil, api.ErrMany},
		{"a bucket of MaxCols columns, and a size that may not be", full, bucket(0, 0, 1), nil, api.ErrArg},
		{"a bucket of MaxCols columns, and no column", full, bucket(16, 1, 1), nil, api.ErrRange},
		{"a bucket of MaxCols columns, and a text", [][]int{many(16, text)}, bucket(3, 1, 1), nil, api.ErrType},
		{"arrange with the key -1", two, keyed(api.NodeArrange, -1, 0), nil, api.ErrRange},
		{"arrange with too great a key", two, keyed(api.NodeArrange, 3, 0), nil, api.ErrRange},
		{"arrange of no column with a key", [][]int{{}}, keyed(api.NodeArrange, 1, 0), nil, api.ErrRange},
		{"arrange of MaxCols with a greater key", full, keyed(api.NodeArrange, 17, 0), nil, api.ErrRange},
		{"count with the key -1", two, keyed(api.NodeCount, -1, 0), nil, api.ErrRange},
		{"count with too great a key", two, keyed(api.NodeCount, 3, 0), nil, api.ErrRange},
		{"count with MaxCols", full, keyed(api.NodeCount, 16, 0), nil, api.ErrMany},
		{"count with more than MaxCols", full, keyed(api.NodeCount, 17, 0), nil, api.ErrRange},
		{"sum with the key -1", two, keyed(api.NodeSum, -1, 1), nil, api.ErrRange},
		{"sum with too great a key", two, keyed(api.NodeSum, 3, 0), nil, api.ErrRange},
		{"sum of the column -1", two, keyed(api.NodeSum, 1, -1), nil, api.ErrRange},
		{"sum of just as many as there are", two, keyed(api.NodeSum, 1, 2), nil, api.ErrRange},
		{"sum of a text", two, keyed(api.NodeSum, 1, 0), nil, api.ErrType},
		{"sum with MaxCols", full, keyed(api.NodeSum, 16, 0), nil, api.ErrMany},
		{"sum with MaxCols of a text", [][]int{append(numbers(15), text)}, keyed(api.NodeSum, 16, 15), nil, api.ErrType},
		{"min with the key -1", two, keyed(api.NodeMin, -1, 0), nil, api.ErrRange},
		{"min with too great a key", two, keyed(api.NodeMin, 3, 0), nil, api.ErrRange},
		{"max with the key -1", two, keyed(api.NodeMax, -1, 0), nil, api.ErrRange},
		{"max with too great a key", two, keyed(api.NodeMax, 3, 0), nil, api.ErrRange},
		{"top with the key -1", two, keyed(api.NodeTop, -1, 1), nil, api.ErrRange},
		{"top with too great a key, and of 0", two, keyed(api.NodeTop, 3, 0), nil, api.ErrRange},
		{"top of 0", two, keyed(api.NodeTop, 1, 0), nil, api.ErrArg},
		{"top of -1", two, keyed(api.NodeTop, 1, -1), nil, api.ErrArg},
		{"top of MaxTop + 1", two, keyed(api.NodeTop, 1, api.MaxTop+1), nil, api.ErrArg},
		{"join with the key -1", [][]int{{num}, {num}}, keyed(api.NodeJoin, -1, 0), nil, api.ErrRange},
		{"join with too great a key for both", [][]int{{num}, {num}}, keyed(api.NodeJoin, 2, 0), nil, api.ErrRange},
		{"join with too great a key for the first", [][]int{{num}, {num, num}}, keyed(api.NodeJoin, 2, 0), nil, api.ErrRange},
		{"join with too great a key for the second", [][]int{{num, num}, {num}}, keyed(api.NodeJoin, 2, 0), nil, api.ErrRange},
		{"join with too great a key, and other kinds", [][]int{{num}, {text}}, keyed(api.NodeJoin, 2, 0), nil, api.ErrRange},
		{"join with keys of other kinds", [][]int{{num, text}, {text, text}}, keyed(api.NodeJoin, 1, 0), nil, api.ErrType},
		{"join with keys whose last is of another kind", [][]int{{num, text, num}, {num, num}}, keyed(api.NodeJoin, 2, 0), nil, api.ErrType},
		{"join to MaxCols + 1", [][]int{numbers(8), numbers(9)}, keyed(api.NodeJoin, 0, 0), nil, api.ErrMany},
		{"join to MaxCols + 1 with a key", [][]int{numbers(10), numbers(11)}, keyed(api.NodeJoin, 4, 0), nil, api.ErrMany},
		{"join to far too many", [][]int{numbers(16), numbers(16)}, keyed(api.NodeJoin, 0, 0), nil, api.ErrMany},
		{"join to too many, and other kinds", [][]int{numbers(16), many(16, text)}, keyed(api.NodeJoin, 1, 0), nil, api.ErrType},
		{"join to too many, and the key -1", [][]int{numbers(16), many(16, text)}, keyed(api.NodeJoin, -1, 0), nil, api.ErrRange},
	}
}

func TestKindsRefuse(t *testing.T) { // P16.2: each error by itself, and the first one of two, told by hand
	for _, m := range append(mapFaults(), otherFaults()...) {
		m.hold(t)
	}
	for _, k := range []struct {
		kinds []int
		e     api.Errno
	}{
		{numbers(17), api.ErrMany}, {numbers(100), api.ErrMany}, {many(17, 5), api.ErrMany},
		{[]int{2}, api.ErrKind}, {[]int{-1}, api.ErrKind}, {[]int{num, text, 2}, api.ErrKind}, {append(numbers(15), 7), api.ErrKind},
	} {
		holdBad(t, fmt.Sprint("an input of ", k.kinds), planOf(input(k.kinds...)), k.e, 0)
		holdBad(t, fmt.Sprint("a last input of ", k.kinds), planOf(negate(1), input(num), input(k.kinds...)), k.e, 2)
	}
}

func TestStrangeNumbers(t *testing.T) { // P16.1, P16.2: the least and the greatest in each field that is a number
	for _, x := range strange() {
		name := fmt.Sprint("the number ", x)
		two := [][]int{{text, num}}
		l := []made{
			{"a map of it", two, mapped(col(x)), nil, api.ErrRange},
			{"a step of it", two, mapped(steps(nil, x)), nil, api.ErrKind},
			{"a filter of it", two, filter(col(x)), nil, api.ErrRange},
			{"a filter of the number", two, filter(number(x)), two[0], api.OK},
			{"a project of it", two, project(x), nil, api.ErrRange},
			{"a bucket of it", two, bucket(x, 1, 1), nil, api.ErrRange},
			{"arrange by it", two, keyed(api.NodeArrange, x, 0), nil, api.ErrRange},
			{"distinct by it", two, keyed(api.NodeDistinct, x, x), two[0], api.OK},
			{"count by it", two, keyed(api.NodeCount, x, 0), nil, api.ErrRange},
			{"count, asking no n", two, keyed(api.NodeCount, 1, x), two[0], api.OK},
			{"sum by it", two, keyed(api.NodeSum, x, 1), nil, api.ErrRange},
			{"sum of it", two, keyed(api.NodeSum, 1, x), nil, api.ErrRange},
			{"min by it", two, keyed(api.NodeMin, x, 0), nil, api.ErrRange},
			{"max by it", two, keyed(api.NodeMax, x, 0), nil, api.ErrRange},
			{"top by it", two, keyed(api.NodeTop, x, 1), nil, api.ErrRange},
			{"join by it", append(two, two...), keyed(api.NodeJoin, x, 0), nil, api.ErrRange},
		}
		for _, m := range l {
			m.name = name + ": " + m.name
			m.hold(t)
		}
		if x < 1 || x > api.MaxSpan {
			made{name + " as a size", two, bucket(1, x, 1), nil, api.ErrArg}.hold(t)
			made{name + " as a slide", two, bucket(1, 1, x), nil, api.ErrArg}.hold(t)
		}
		if x < 1 || x > api.MaxTop {
			made{name + " of a top", two, keyed(api.NodeTop, 1, x), nil, api.ErrArg}.hold(t)
		}
		holdBad(t, name+" as a column's kind", planOf(input(x)), api.ErrKind, 0)
		p := planOf(input(num), negate(0))
		p.Outs[0] = x
		holdBad(t, name+" as an out", p, api.ErrRange, 2)
		holdBad(t, name+" as a kind", planOf(input(num), fed(plain(x), 0)), api.ErrKind, 1)
		holdBad(t, name+" as an in", planOf(input(num), negate(x)), api.ErrRange, 1)
		holdBad(t, name+" as the second in", planOf(input(num), join(0, x, 0)), api.ErrRange, 1)
		p = planOf(input(num), negate(0))
		if p.Room = x; x < 1 || x > api.MaxRoom {
			holdBad(t, name+" as room", p, api.ErrArg, 2)
		}
	}
}

// eight is a plan that may be, of eight nodes.
func eight() api.Plan {
	return planOf(input(num, text), negate(0), concat(0, 1), join(0, 2, 1), fed(filter(col(0)), 3), fed(plain(api.NodeDistinct), 4), fed(keyed(api.NodeTop, 1, 3), 5), input())
}

func TestShape(t *testing.T) { // P16.1: what may just be
	for _, room := range []int{1, 2, api.MaxRoom - 1, api.MaxRoom} {
		p := eight()
		p.Room = room
		if e, at := plan.Check(p); e != api.OK || at != 8 {
			t.Errorf("room %d: %d, %d", room, e, at)
		}
	}
	for _, outs := range [][]int{{0}, {7}, {3, 3}, {7, 0}, {0, 1, 2, 3, 4, 5, 6, 7}, many(api.MaxOuts, 5)} {
		p := eight()
		p.Outs = outs
		if e, at := plan.Check(p); e != api.OK || at != 8 {
			t.Errorf("outs %v: %d, %d", outs, e, at)
		}
	}
	for _, count := range []int{1, 2, api.MaxNodes - 1, api.MaxNodes} {
		nodes, kinds, order := many(count, input(num)), many(count, []int{num}), make([]int, count)
		for i := range order {
			order[i] = i
		}
		holdGood(t, planOf(nodes...), kinds, order)
	}
	for count := 1; count <= api.MaxIns; count++ {
		p := planOf(input(num), concat(many(count, 0)...))
		holdGood(t, p, [][]int{{num}, {num}}, []int{0, 1})
	}
	// The same node twice among a join's ins, and nodes that no out hangs on.
	p := planOf(input(num, text), join(0, 0, 1), negate(0), join(2, 2, 0))
	p.Outs = []int{1}
	holdGood(t, p, [][]int{{num, text}, {num, text, text}, {num, text}, {num, text, num, text}}, []int{0, 1, 2, 3})
}

func TestShapeRefuses(t *testing.T) { // P16.1: told by hand
	for _, k := range []struct {
		name string
		turn func(p *api.Plan)
		e    api.Errno
		at   int
	}{
		{"the empty plan", func(p *api.Plan) { *p = api.Plan{} }, api.ErrArg, 0},
		{"no node", func(p *api.Plan) { p.Nodes = nil }, api.ErrArg, 0},
		{"no node, and an out", func(p *api.Plan) { p.Nodes, p.Outs = []api.Node{}, []int{0} }, api.ErrArg, 0},
		{"MaxNodes + 1 nodes", func(p *api.Plan) { p.Nodes = many(65, input(num)) }, api.ErrMany, 65},
		{"far too many nodes", func(p *api.Plan) { p.Nodes = many(1000, negate(1)) }, api.ErrMany, 1000},
		{"no out", func(p *api.Plan) { p.Outs = nil }, api.ErrArg, 8},
		{"no out, empty", func(p *api.Plan) { p.Outs = []int{} }, api.ErrArg, 8},
		{"MaxOuts + 1 outs", func(p *api.Plan) { p.Outs = many(9, 0) }, api.ErrMany, 8},
		{"far too many outs", func(p *api.Plan) { p.Outs = many(1000, -1) }, api.ErrMany, 8},
		{"room of 0", func(p *api.Plan) { p.Room = 0 }, api.ErrArg, 8},
		{"room below 0", func(p *api.Plan) { p.Room = -1 }, api.ErrArg, 8},
		{"room of MaxRoom + 1", func(p *api.Plan) { p.Room = 65537 }, api.ErrArg, 8},
		{"an out of -1", func(p *api.Plan) { p.Outs = []int{-1} }, api.ErrRange, 8},
		{"an out of just as many as there are", func(p *api.Plan) { p.Outs = []int{8} }, api.ErrRange, 8},
		{"the last of the outs", func(p *api.Plan) { p.Outs = append(many(7, 0), 8) }, api.ErrRange, 8},
		{"a kind of -1", func(p *api.Plan) { p.Nodes[1].Kind = -1 }, api.ErrKind, 1},
		{"a kind of 16", func(p *api.Plan) { p.Nodes[1].Kind = 16 }, api.ErrKind, 1},
		{"a kind of 16 with the first node", func(p *api.Plan) { p.Nodes[0].Kind = 16 }, api.ErrKind, 0},
		{"a kind of 16 with the last node", func(p *api.Plan) { p.Nodes[7].Kind = 16 }, api.ErrKind, 7},
		{"an input with an in", func(p *api.Plan) { p.Nodes[0].Ins = []int{7} }, api.ErrArg, 0},
		{"an input with itself", func(p *api.Plan) { p.Nodes[7].Ins = []int{7} }, api.ErrArg, 7},
		{"an input with many ins", func(p *api.Plan) { p.Nodes[7].Ins = many(9, 0) }, api.ErrArg, 7},
		{"an in of -1", func(p *api.Plan) { p.Nodes[1].Ins = []int{-1} }, api.ErrRange, 1},
		{"an in of just as many as there are", func(p *api.Plan) { p.Nodes[1].Ins = []int{8} }, api.ErrRange, 1},
		{"the last of a concat's ins", func(p *api.Plan) { p.Nodes[2].Ins = append(many(7, 0), 8) }, api.ErrRange, 2},
		{"a join's first in", func(p *api.Plan) { p.Nodes[3].Ins = []int{8, 0} }, api.ErrRange, 3},
		{"a join's second in", func(p *api.Plan) { p.Nodes[3].Ins = []int{0, -1} }, api.ErrRange, 3},
		{"a node that is its own in", func(p *api.Plan) { p.Nodes[1].Ins = []int{1} }, api.ErrLoop, 1},
	} {
		p := eight()
		k.turn(&p)
		holdBad(t, k.name, p, k.e, k.at)
	}
}

func TestHowManyIns(t *testing.T) { // P16.1: of each kind, from none to more than may be
	for _, kind := range allKinds() {
		for count := range 12 {
			p := planOf(input(num), input(num), fed(plain(kind), many(count, 0)...))
			least, most := 1, 1
			switch kind {
			case api.NodeInput:
				least, most = 0, 0
			case api.NodeConcat:
				least, most = 1, 8
			case api.NodeJoin:
				least, most = 2, 2
			}
			if count < least || count > most {
				holdBad(t, fmt.Sprintf("the kind %d with %d ins", kind, count), p, api.ErrArg, 2)
				p.Nodes[2].Ins = many(count, -1)
				holdBad(t, fmt.Sprintf("the kind %d with %d wrong ins", kind, count), p, api.ErrArg, 2)
			} else if count > 0 {
				p.Nodes[2].Ins[count-1] = 3
				holdBad(t, fmt.Sprintf("the kind %d with %d ins, the last of them none", kind, count), p, api.ErrRange, 2)
			}
		}
	}
}

// ring is so many nodes, each fed by the next, the last one by the one that is told.
func ring(count, last int) []api.Node {
	var l []api.Node
	for i := range count {
		l = append(l, negate(i+1))
	}
	l[count-1].Ins[0] = last
	return l
}

func TestLoops(t *testing.T) { // P16.1: the first node from which one comes to itself
	for _, k := range []struct {
		name  string
		nodes []api.Node
		at    int
	}{
		{"one node alone", []api.Node{negate(0)}, 0},
		{"a node that is its own in", []api.Node{input(num), negate(0), negate(2)}, 2},
		{"two nodes", []api.Node{input(num), negate(2), negate(1)}, 1},
		{"one that only leads there", []api.Node{negate(1), negate(2), negate(1)}, 1},
		{"one that leads to one that is its own in", []api.Node{negate(2), input(num), negate(2)}, 2},
		{"those that are fed by it", []api.Node{negate(4), negate(0), input(num), negate(4), negate(4)}, 4},
		{"two loops, the later one found by the first node", []api.Node{negate(4), negate(3), negate(1), negate(2), negate(5), negate(4)}, 1},
		{"two loops, one behind the other", []api.Node{concat(1, 2), negate(3), concat(2, 1), negate(1)}, 1},
		{"a concat's last in", []api.Node{input(num), concat(0, 0, 0, 0, 0, 0, 0, 1)}, 1},
		{"a concat's first in", []api.Node{input(num), concat(2, 0), negate(1)}, 1},
		{"a join's second in", []api.Node{input(num), join(0, 2, 1), negate(1)}, 1},
		{"a join's first in", []api.Node{input(num), negate(2), join(1, 0, 1)}, 1},
		{"a join with itself twice", []api.Node{input(num), join(1, 1, 0)}, 1},
		{"a loop through each other's first and second", []api.Node{join(1, 2, 0), join(2, 0, 0), input(num)}, 0},
		{"all nodes", ring(api.MaxNodes, 0), 0},
		{"all but the first", ring(api.MaxNodes, 1), 1},
		{"the last two", ring(api.MaxNodes, api.MaxNodes-2), api.MaxNodes - 2},
		{"the last one alone", ring(api.MaxNodes, api.MaxNodes-1), api.MaxNodes - 1},
		{"half of them", ring(api.MaxNodes, api.MaxNodes/2), api.MaxNodes / 2},
	} {
		p := planOf(k.nodes...)
		for out := range p.Nodes {
			p.Outs[0] = out // also where the out does not hang on it
			holdBad(t, k.name, p, api.ErrLoop, k.at)
		}
	}
}

func TestManyWays(t *testing.T) { // P16.1: far more ways through a plan than could be gone one by one
	nodes, kinds, order := []api.Node{input(num)}, [][]int{{num}}, []int{0}
	for i := 1; i < api.MaxNodes; i++ {
		nodes = append(nodes, concat(many(api.MaxIns, i-1)...))
		kinds, order = append(kinds, []int{num}), append(order, i)
	}
	holdGood(t, planOf(nodes...), kinds, order)
	nodes[0] = concat(many(api.MaxIns, api.MaxNodes-1)...)
	holdBad(t, "round by many ways", planOf(nodes...), api.ErrLoop, 0)
	nodes[0] = concat(0)
	holdBad(t, "many ways to a loop", planOf(nodes...), api.ErrLoop, 0)
	slices.Reverse(nodes)
	for i := range nodes {
		nodes[i] = concat(many(api.MaxIns, min(i+1, api.MaxNodes-1))...)
	}
	holdBad(t, "many ways to a loop at the end", planOf(nodes...), api.ErrLoop, api.MaxNodes-1)
}

func TestOrder(t *testing.T) { // P16.3: told by hand
	for _, k := range []struct {
		nodes []api.Node
		want  []int
	}{
		{[]api.Node{input()}, []int{0}},
		{[]api.Node{input(), input(), input()}, []int{0, 1, 2}},
		{[]api.Node{negate(1), input()}, []int{1, 0}},
		{[]api.Node{negate(2), input(), input()}, []int{1, 2, 0}},
		{[]api.Node{negate(1), input(), input()}, []int{1, 0, 2}}, // the least one comes as soon as it may
		{[]api.Node{negate(3), negate(2), input(), input()}, []int{2, 1, 3, 0}},
		{[]api.Node{negate(2), negate(3), input(), input()}, []int{2, 0, 3, 1}},
		{[]api.Node{concat(1, 3), negate(3), input(), negate(2)}, []int{2, 3, 1, 0}},
		{[]api.Node{join(4, 1, 0), negate(4), input(), negate(0), input()}, []int{2, 4, 1, 0, 3}},
		{[]api.Node{concat(5, 5, 5), negate(5), negate(4), input(), negate(3), input()}, []int{3, 4, 2, 5, 0, 1}},
		{[]api.Node{negate(5), negate(0), input(), negate(1), negate(2), negate(4)}, []int{2, 4, 5, 0, 1, 3}},
	} {
		if got, e := plan.Order(planOf(k.nodes...)); !slices.Equal(got, k.want) || e != api.OK {
			t.Errorf("Order of %v = %v, %d, want %v", k.nodes, got, e, k.want)
		}
	}
}

func TestLongChains(t *testing.T) { // P16.3: straight and turned round, of one node to as many as may be
	for count := 1; count <= api.MaxNodes; count++ {
		straight, turned := make([]api.Node, count), make([]api.Node, count)
		up, down := make([]int, count), make([]int, count)
		for i := range count {
			straight[i], turned[i] = negate(i-1), negate(i+1)
			up[i], down[i] = i, count-1-i
		}
		straight[0], turned[count-1] = input(text, num), input(text, num)
		holdGood(t, planOf(straight...), many(count, []int{text, num}), up)
		holdGood(t, planOf(turned...), many(count, []int{text, num}), down)
	}
}

// spoilt is a fault that is laid into a plan, in a part of it that it has for itself.
type spoilt struct {
	part string
	turn func(p *api.Plan)
	e    api.Errno
	at   int // -1: it is no node's
}

// inTurn are faults of a plan of 16 nodes, in the order in which the chapter names them.
func inTurn() []spoilt {
	node := func(at int, n api.Node) func(p *api.Plan) { return func(p *api.Plan) { p.Nodes[at] = n } }
	return []spoilt{
		{"nodes", func(p *api.Plan) { p.Nodes = append(p.Nodes, many(49, input(num))...) }, api.ErrMany, -1},
		{"outs", func(p *api.Plan) { p.Outs = many(9, 0) }, api.ErrMany, -1},
		{"outs", func(p *api.Plan) { p.Outs = nil }, api.ErrArg, -1},
		{"room", func(p *api.Plan) { p.Room = 0 }, api.ErrArg, -1},
		{"outs", func(p *api.Plan) { p.Outs = []int{0, 99} }, api.ErrRange, -1},
		{"3", node(3, fed(plain(16), 0)), api.ErrKind, 3},
		{"3", node(3, fed(plain(api.NodeInput), -1)), api.ErrArg, 3},
		{"4", node(4, negate(16)), api.ErrRange, 4},
		{"5", node(5, fed(plain(-1))), api.ErrKind, 5},
		{"6", node(6, concat()), api.ErrArg, 6},
		{"15", node(15, fed(plain(99), 99)), api.ErrKind, 15},
		{"7", node(7, negate(7)), api.ErrLoop, 7},
		{"8", node(8, concat(0, 10)), api.ErrLoop, 8}, // 10 is fed by 8
		{"14", node(14, join(14, 14, 0)), api.ErrLoop, 14},
		{"0", node(0, input(9)), api.ErrKind, 0},
		{"2", node(2, input(numbers(17)...)), api.ErrMany, 2},
		{"1", node(1, fed(project(9), 2)), api.ErrRange, 1}, // it stands behind 2 in Order
		{"9", node(9, fed(mapped(), 1)), api.ErrArg, 9},
		{"11", node(11, fed(filter(word("x")), 0)), api.ErrType, 11},
		{"12", node(12, fed(bucket(0, 65, 1), 0)), api.ErrMany, 12},
	}
}

func TestTheFirstFault(t *testing.T) { // P16.1, P16.2: of two faults the one that the chapter names first
	base := func() api.Plan {
		nodes := many(16, negate(0))
		nodes[0], nodes[1], nodes[2] = input(num), negate(2), input(num)
		nodes[10] = negate(8)
		return planOf(nodes...)
	}
	if e, at := plan.Check(base()); e != api.OK || at != 16 {
		t.Fatalf("without a fault: %d, %d", e, at)
	}
	l := inTurn()
	for i, first := range l {
		for _, second := range l[i:] {
			p := base()
			if second.turn(&p); first.part != second.part {
				first.turn(&p)
			} else if first.e != second.e || first.at != second.at {
				continue
			}
			place := first.at
			if place < 0 {
				place = len(p.Nodes)
			}
			holdBad(t, fmt.Sprintf("%s (%d) with %s (%d)", first.part, first.e, second.part, second.e), p, first.e, place)
		}
	}
}

func TestTheFirstFaultOfANode(t *testing.T) { // P16.1: in one node, and of nodes by their numbers
	for _, k := range []struct {
		name string
		n    api.Node
		e    api.Errno
	}{
		{"no kind, no ins", plain(16), api.ErrKind},
		{"no kind, many ins that are none", fed(plain(-1), many(9, -1)...), api.ErrKind},
		{"an input with an in that is none", fed(input(9), 9), api.ErrArg},
		{"too many ins that are none", concat(many(9, 9)...), api.ErrArg},
		{"an in that is none, and itself", concat(1, 9), api.ErrRange},
		{"itself, and no Exprs", fed(mapped(), 1), api.ErrLoop},
		{"an in that is none, and no Exprs", fed(mapped(), 2), api.ErrRange},
	} {
		holdBad(t, k.name, planOf(input(num), k.n), k.e, 1)
	}
	holdBad(t, "a range ahead of a kind", planOf(negate(9), plain(16)), api.ErrRange, 0)
	holdBad(t, "a kind ahead of a range", planOf(plain(16), negate(9)), api.ErrKind, 0)
	holdBad(t, "a number of ins ahead of a kind", planOf(concat(), plain(16)), api.ErrArg, 0)
	holdBad(t, "an input's kinds behind another's loop", planOf(input(5), negate(1)), api.ErrLoop, 1)
	holdBad(t, "a loop behind another's shape", planOf(negate(0), negate(9)), api.ErrRange, 1)
}

func TestTheFirstFaultInOrder(t *testing.T) { // P16.2: it goes by Order, not by numbers
	wrong := project(99)
	for _, k := range []struct {
		name  string
		nodes []api.Node
		e     api.Errno
		at    int
	}{
		{"an in ahead of a lower number", []api.Node{fed(wrong, 1), input(9)}, api.ErrKind, 1},
		{"a higher number that comes earlier", []api.Node{fed(wrong, 3), fed(wrong, 2), input(num), input(num)}, api.ErrRange, 1},
		{"the lower one as soon as it may", []api.Node{fed(wrong, 1), input(num), input(9)}, api.ErrRange, 0},
		{"a later input that stands ahead", []api.Node{fed(wrong, 2), input(num), input(num), fed(mapped(), 1)}, api.ErrRange, 0},
		{"an input on the way", []api.Node{fed(wrong, 2), input(9), input(num), fed(mapped(), 1)}, api.ErrKind, 1},
		{"two inputs", []api.Node{input(num), input(numbers(17)...), input(9)}, api.ErrMany, 1},
		{"behind a fault", []api.Node{input(num), fed(wrong, 0), fed(filter(), 1)}, api.ErrRange, 1},
		{"behind a fault, turned round", []api.Node{fed(filter(), 1), fed(wrong, 2), input(num)}, api.ErrRange, 1},
	} {
		holdBad(t, k.name, planOf(k.nodes...), k.e, k.at)
	}
}

// noisy is the node with something strange in each field that its kind has no use for.
func noisy(n api.Node, x int) api.Node {
	if n.Kind != api.NodeInput {
		n.Kinds = many(20, x)
	}
	if n.Kind != api.NodeMap && n.Kind != api.NodeFilter {
		n.Exprs = [][]api.Term{nil, {{Op: x, Int: x}}, many(70, api.Term{Op: x})}
	}
	if n.Kind != api.NodeProject {
		n.Cols = many(20, x)
	}
	if n.Kind != api.NodeBucket {
		n.Size, n.Slide = x, x
	}
	if _, grouped := plan.Group(n); n.Kind == api.NodeDistinct || !grouped && n.Kind != api.NodeArrange && n.Kind != api.NodeJoin {
		n.Key = x
	}
	if n.Kind != api.NodeBucket && n.Kind != api.NodeSum && n.Kind != api.NodeTop {
		n.N = x
	}
	return n
}

func TestFieldsThatPlayNoPart(t *testing.T) { // P16.2: what a kind's words do not name is not asked
	kinds, e := plan.Kinds(everyKind())
	order, f := plan.Order(everyKind())
	if e != api.OK || f != api.OK {
		t.Fatal(e, f)
	}
	for _, x := range append(strange(), 0, 1, 2) {
		p := everyKind()
		for i, n := range p.Nodes {
			p.Nodes[i] = noisy(n, x)
		}
		holdGood(t, p, kinds, order)
	}
}

func TestNilAndEmpty(t *testing.T) { // the rule of memory: nil and empty lists are alike
	for _, k := range []struct{ nilled, emptied api.Plan }{
		{planOf(api.Node{}), planOf(api.Node{Ins: []int{}, Kinds: []int{}, Exprs: [][]api.Term{}, Cols: []int{}})},
		{planOf(input(), fed(project(), 0)), planOf(input([]int{}...), fed(project([]int{}...), 0))},
		{planOf(input(), fed(mapped(), 0)), planOf(input(), fed(mapped([][]api.Term{}...), 0))},
		{planOf(input(), fed(mapped(nil), 0)), planOf(input(), fed(mapped([]api.Term{}), 0))},
		{planOf(input(), fed(filter(), 0)), planOf(input(), fed(filter([][]api.Term{}...), 0))},
		{planOf(input(), plain(api.NodeConcat)), planOf(input(), concat([]int{}...))},
		{api.Plan{}, api.Plan{Nodes: []api.Node{}, Outs: []int{}}},
		{api.Plan{Nodes: []api.Node{input()}, Room: 1}, api.Plan{Nodes: []api.Node{input()}, Outs: []int{}, Room: 1}},
	} {
		e, at := plan.Check(k.nilled)
		f, place := plan.Check(k.emptied)
		a, _ := plan.Kinds(k.nilled)
		b, _ := plan.Kinds(k.emptied)
		l, _ := plan.Order(k.nilled)
		m, _ := plan.Order(k.emptied)
		if e != f || at != place || !sameKinds(a, b) || !slices.Equal(l, m) {
			t.Errorf("%+v: %d, %d, %v, %v; %+v: %d, %d, %v, %v", k.nilled, e, at, a, l, k.emptied, f, place, b, m)
		}
	}
}

func TestInputs(t *testing.T) { // P16.3: also of plans that Check refuses
	for _, k := range []struct {
		p    api.Plan
		want []int
	}{
		{api.Plan{}, nil},
		{planOf(input()), []int{0}},
		{eight(), []int{0, 7}},
		{planOf(negate(0), negate(1)), nil},
		{planOf(plain(16), input(), plain(-1), input(9), fed(input(), 0), plain(low), plain(high)), []int{1, 3, 4}},
		{api.Plan{Nodes: []api.Node{negate(5), input(), {}}}, []int{1, 2}},
		{api.Plan{Nodes: many(100, input(numbers(20)...)), Room: -1}, rising(100)},
	} {
		if got := plan.Inputs(k.p); !slices.Equal(got, k.want) {
			t.Errorf("Inputs(%+v) = %v, want %v", k.p, got, k.want)
		}
	}
}

// rising are the numbers below count.
func rising(count int) []int {
	var l []int
	for i := range count {
		l = append(l, i)
	}
	return l
}

func TestUsers(t *testing.T) { // P16.3: also of plans that Check refuses, and of numbers that are no node
	p := planOf(input(num), negate(0), concat(0, 1, 0, 0), join(2, 2, 1), input(), join(0, 3, 0))
	bad := api.Plan{Nodes: []api.Node{negate(-1), concat(1, 9, 1, -1, 9), fed(input(), 1), fed(plain(77), 9, low), fed(plain(api.NodeMap), many(40, 5)...), concat(high, 0, low)}}
	for _, k := range []struct {
		p    api.Plan
		node int
		want []int
	}{
		{p, 0, []int{1, 2, 2, 2, 5}},
		{p, 1, []int{2}},
		{p, 2, []int{3, 3}},
		{p, 3, []int{5}},
		{p, 4, nil},
		{p, 5, nil},
		{p, 6, nil},
		{p, -1, nil},
		{p, low, nil},
		{p, high, nil},
		{bad, 0, []int{5}},
		{bad, 1, []int{1, 1, 2}},
		{bad, 5, many(40, 4)},
		{bad, 2, nil},
		{bad, -1, []int{0, 1}},
		{bad, 9, []int{1, 1, 3}},
		{bad, low, []int{3, 5}},
		{bad, high, []int{5}},
		{api.Plan{}, 0, nil},
		{planOf(negate(0)), 0, []int{0}},
		{planOf(concat(0, 0), concat(1, 0)), 0, []int{0, 0, 1}},
	} {
		if got := plan.Users(k.p, k.node); !slices.Equal(got, k.want) {
			t.Errorf("Users(%+v, %d) = %v, want %v", k.p, k.node, got, k.want)
		}
	}
}

func TestGroup(t *testing.T) { // P16.3: of each kind, and of those that are none
	groups := map[int]int{api.NodeDistinct: api.GroupDistinct, api.NodeCount: api.GroupCount, api.NodeSum: api.GroupSum, api.NodeMin: api.GroupMin, api.NodeMax: api.GroupMax, api.NodeTop: api.GroupTop}
	for _, kind := range append(append(allKinds(), 16, 17, 9+16, 14-16), strange()...) {
		want, ok := groups[kind]
		for _, n := range []api.Node{{Kind: kind}, {Kind: kind, Ins: []int{9, -9}, Key: -1, N: -1, Cols: []int{5}}} {
			if got, is := plan.Group(n); got != want || is != ok {
				t.Errorf("Group of the kind %d = %d, %v, want %d, %v", kind, got, is, want, ok)
			}
		}
	}
}

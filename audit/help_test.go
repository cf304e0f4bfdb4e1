package audit_test

import (
	"fmt"
	"math"
	"slices"
	"strings"

	"runnel/api"
)

const (
	low  = math.MinInt
	high = math.MaxInt
	num  = api.KindInt
	text = api.KindStr
)

// r is a row of numbers, texts and values.
func r(values ...any) api.Row {
	var l api.Row
	for _, v := range values {
		switch x := v.(type) {
		case int:
			l = append(l, api.Val{Kind: num, Int: x})
		case string:
			l = append(l, api.Val{Kind: text, Str: x})
		case api.Val:
			l = append(l, x)
		}
	}
	return l
}

// c is how often a row of these values is there.
func c(diff int, values ...any) api.Count { return api.Count{Row: r(values...), Diff: diff} }

func list(l ...api.Count) []api.Count      { return l }
func lists(l ...[]api.Count) [][]api.Count { return l }

// many is so many of one thing.
func many[T any](count int, x T) []T { return slices.Repeat([]T{x}, count) }

// laden is a row in which the fields that play no part are filled.
func laden(l api.Row) api.Row {
	l = slices.Clone(l)
	for i := range l {
		if l[i].Kind == num {
			l[i].Str = fmt.Sprint("beside ", i)
		} else {
			l[i].Int = 70 + i
		}
	}
	return l
}

// sameVal: what tells of a value, and no more.
func sameVal(a, b api.Val) bool {
	return a.Kind == b.Kind && (a.Kind != num || a.Int == b.Int) && (a.Kind != text || a.Str == b.Str)
}

func sameRow(a, b api.Row) bool { return slices.EqualFunc(a, b, sameVal) }

func sameCount(a, b api.Count) bool { return a.Diff == b.Diff && sameRow(a.Row, b.Row) }

func sameCounts(a, b []api.Count) bool { return slices.EqualFunc(a, b, sameCount) }

func sameLists(a, b [][]api.Count) bool { return slices.EqualFunc(a, b, sameCounts) }

// brief is a thing as a text that is not too long to be read.
func brief(x any) string {
	text := strings.ToValidUTF8(fmt.Sprintf("%+v", x), "?")
	if len(text) > 900 {
		text = text[:900] + " .."
	}
	return text
}

// noNumbers are numbers that none of so many has.
func noNumbers(many int) []int {
	return []int{low, low + 1, -1 << 32, -2, -1, many, many + 1, 256, 1 << 32, 1<<32 - 1, high - 1, high}
}

func input(kinds ...int) api.Node { return api.Node{Kind: api.NodeInput, Kinds: kinds} }
func mapped(in int, exprs ...[]api.Term) api.Node {
	return api.Node{Kind: api.NodeMap, Ins: []int{in}, Exprs: exprs}
}
func filter(in int, expr []api.Term) api.Node {
	return api.Node{Kind: api.NodeFilter, Ins: []int{in}, Exprs: [][]api.Term{expr}}
}
func project(in int, cols ...int) api.Node {
	return api.Node{Kind: api.NodeProject, Ins: []int{in}, Cols: cols}
}
func concat(ins ...int) api.Node  { return api.Node{Kind: api.NodeConcat, Ins: ins} }
func negate(in int) api.Node      { return api.Node{Kind: api.NodeNegate, Ins: []int{in}} }
func consolidate(in int) api.Node { return api.Node{Kind: api.NodeConsolidate, Ins: []int{in}} }
func bucket(in, col, size, slide int) api.Node {
	return api.Node{Kind: api.NodeBucket, Ins: []int{in}, N: col, Size: size, Slide: slide}
}
func arrange(in, key int) api.Node {
	return api.Node{Kind: api.NodeArrange, Ins: []int{in}, Key: key}
}
func folds(kind, in, key, n int) api.Node {
	return api.Node{Kind: kind, Ins: []int{in}, Key: key, N: n}
}
func distinct(in int) api.Node     { return folds(api.NodeDistinct, in, 0, 0) }
func counts(in, key int) api.Node  { return folds(api.NodeCount, in, key, 0) }
func sums(in, key, n int) api.Node { return folds(api.NodeSum, in, key, n) }
func least(in, key int) api.Node   { return folds(api.NodeMin, in, key, 0) }
func joins(a, b, key int) api.Node {
	return api.Node{Kind: api.NodeJoin, Ins: []int{a, b}, Key: key}
}

func col(i int) []api.Term     { return []api.Term{{Op: api.OpCol, Int: i}} }
func number(x int) []api.Term  { return []api.Term{{Op: api.OpInt, Int: x}} }
func word(s string) []api.Term { return []api.Term{{Op: api.OpStr, Str: s}} }

// of is a step behind others.
func of(op int, l ...[]api.Term) []api.Term {
	return append(slices.Concat(l...), api.Term{Op: op})
}

// planOf is a plan whose last node is its out.
func planOf(nodes ...api.Node) api.Plan {
	return api.Plan{Nodes: nodes, Outs: []int{len(nodes) - 1}, Room: 1}
}

// outsAre is a plan with other outs.
func outsAre(p api.Plan, outs ...int) api.Plan {
	p.Outs = outs
	return p
}

// linears is a plan of all kinds of nodes that do something with each row by itself.
func linears() api.Plan {
	return outsAre(planOf(input(num, text), input(num, text), filter(0, of(api.OpLess, col(0), number(3))), negate(1), concat(0, 2, 3, 0),
		mapped(4, of(api.OpMul, col(0), col(0)), of(api.OpLen, col(1))), project(5, 1), bucket(6, 0, 3, 2)), 7, 6, 5, 4, 3, 0)
}

// shop is a plan of two inputs, of orders (who, how much) and of those who may order, in which a row hangs on several others: 4 is the sum of what each one who may ordered, 5 the least order of each.
func shop() api.Plan {
	return outsAre(planOf(input(num, num), input(num), distinct(1), joins(0, 2, 1), sums(3, 1, 1), least(0, 1)), 4, 3, 5)
}

// orders is what its inputs have.
func orders() [][]api.Count {
	return lists(list(c(1, 2, 9), c(1, 1, 7), c(2, 1, 5)), list(c(3, 1), c(1, 3)))
}

// greatNodes are nodes behind others: 0 and 1 are inputs, and 3 has the row of no values as often as all pairs of their rows with the same key come to.
func greatNodes(behind int) []api.Node {
	return []api.Node{input(num), input(num, num), joins(behind, behind+1, 1), project(behind + 2)}
}

// greatLists is what the inputs have so that there are 2^62, of which 2^63, one more than a number tells, hang on (5): without it there are -2^62. No other row that is left out makes a sum too great.
func greatLists() [][]api.Count {
	return lists(list(c(-1, 1), c(-1, 2), c(-1, 3), c(-1, 4), c(1, 5)),
		list(c(1<<60, 1, 0), c(1<<60, 2, 0), c(1<<60, 3, 0), c(1<<60, 4, 0), c(1<<61, 5, 0), c(1<<61, 5, 1), c(1<<61, 5, 2), c(1<<61, 5, 3)))
}

// trapNodes are nodes behind others: 0 is an input of numbers, and 3 has their sum; what comes together to long is ErrLong, to over ErrOver.
func trapNodes(behind, long, over int) []api.Node {
	is := func(x int) []api.Term { return of(api.OpEq, col(0), number(x)) }
	tooLong := of(api.OpLen, of(api.OpCat, of(api.OpIf, is(long), word(strings.Repeat("x", api.MaxText)), word("")), word("y")))
	tooGreat := of(api.OpAdd, of(api.OpIf, is(over), number(high), number(0)), number(1))
	return []api.Node{input(num), sums(behind, 0, 0), mapped(behind+1, col(0), tooLong, tooGreat), project(behind+2, 0)}
}

func great() api.Plan              { return planOf(greatNodes(0)...) }
func trap(long, over int) api.Plan { return outsAre(planOf(trapNodes(0, long, over)...), 3, 0) }

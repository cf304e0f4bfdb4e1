package deno_test

import (
	"math"
	"slices"
	"strings"
	"testing"

	"runnel/api"
	"runnel/deno"
	"runnel/row"
)

const (
	low  = math.MinInt
	high = math.MaxInt
	num  = api.KindInt
	text = api.KindStr
)

func n(x int) api.Val    { return api.Val{Kind: num, Int: x} }
func s(x string) api.Val { return api.Val{Kind: text, Str: x} }

// r is a row of numbers.
func r(l ...int) api.Row {
	var values api.Row
	for _, x := range l {
		values = append(values, n(x))
	}
	return values
}

// c is so many of a row, o so many of a row of numbers.
func c(diff int, values ...api.Val) api.Count { return api.Count{Row: values, Diff: diff} }
func o(diff int, l ...int) api.Count          { return api.Count{Row: r(l...), Diff: diff} }

// u is a change of a row of numbers.
func u(epoch, round, diff int, l ...int) api.Up {
	return api.Up{Row: r(l...), Time: api.Time{Epoch: epoch, Round: round}, Diff: diff}
}

func at(epoch, round int) api.Time { return api.Time{Epoch: epoch, Round: round} }

// list, lists: what an in has, and what several have.
func list(l ...api.Count) []api.Count      { return l }
func lists(l ...[]api.Count) [][]api.Count { return l }

func input(kinds ...int) api.Node         { return api.Node{Kind: api.NodeInput, Kinds: kinds} }
func mapped(exprs ...[]api.Term) api.Node { return api.Node{Kind: api.NodeMap, Exprs: exprs} }
func filter(exprs ...[]api.Term) api.Node { return api.Node{Kind: api.NodeFilter, Exprs: exprs} }
func project(cols ...int) api.Node        { return api.Node{Kind: api.NodeProject, Cols: cols} }
func plain(kind int) api.Node             { return api.Node{Kind: kind} }
func keyed(kind, key, n int) api.Node     { return api.Node{Kind: kind, Key: key, N: n} }
func join(key int) api.Node               { return keyed(api.NodeJoin, key, 0) }
func bucket(col, size, slide int) api.Node {
	return api.Node{Kind: api.NodeBucket, N: col, Size: size, Slide: slide}
}
func fed(n api.Node, ins ...int) api.Node { n.Ins = ins; return n }
func col(i int) []api.Term                { return []api.Term{{Op: api.OpCol, Int: i}} }
func number(x int) []api.Term             { return []api.Term{{Op: api.OpInt, Int: x}} }
func word(x string) []api.Term            { return []api.Term{{Op: api.OpStr, Str: x}} }

// of is a step behind others.
func of(op int, l ...[]api.Term) []api.Term {
	return append(slices.Concat(l...), api.Term{Op: op})
}

// many is so many of one thing.
func many[T any](count int, x T) []T { return slices.Repeat([]T{x}, count) }

// planOf is a plan whose last node is its out.
func planOf(nodes ...api.Node) api.Plan {
	return api.Plan{Nodes: nodes, Outs: []int{len(nodes) - 1}, Room: 10}
}

// same: are they, one by one, in this order? Nil and empty lists are alike.
func same(a, b []api.Count) bool {
	return slices.EqualFunc(a, b, func(x, y api.Count) bool { return row.Same(x.Row, y.Row) && x.Diff == y.Diff })
}

func sameLists(a, b [][]api.Count) bool { return slices.EqualFunc(a, b, same) }

// made is what a node makes of what its ins have.
type made struct {
	name string
	node api.Node
	ins  [][]api.Count
	want []api.Count
}

// refused is what a node, or a plan, is told of what it can make nothing of.
type refused struct {
	name string
	node api.Node
	ins  [][]api.Count
	want api.Errno
}

func holdMade(t *testing.T, l []made) {
	t.Helper()
	for _, k := range l {
		if got, e := deno.Node(k.node, k.ins); !same(got, k.want) || e != api.OK {
			t.Errorf("%s: Node(%+v, %v) = %v, %d, want %v", k.name, k.node, k.ins, got, e, k.want)
		}
	}
}

func holdRefused(t *testing.T, l []refused) {
	t.Helper()
	for _, k := range l {
		if got, e := deno.Node(k.node, k.ins); len(got) != 0 || e != k.want {
			t.Errorf("%s: Node(%+v, %v) = %v, %d, want error %d", k.name, k.node, k.ins, got, e, k.want)
		}
	}
}

func TestThePage(t *testing.T) { // P18.1: the page's example
	holdMade(t, []made{{"the page", join(1), lists(list(o(2, 1, 5)), list(o(3, 1, 6))), list(o(6, 1, 5, 6))}})
}

// some is a list with a row several times, with one that is not there in the end, and with one below 0.
func some() []api.Count {
	return list(o(1, 2, 6), o(4, 1, 5), o(-1, 1, 7), o(7, 9, 9), o(-2, 1, 5), o(-7, 9, 9))
}

// mixed is a list with rows of other lengths and kinds.
func mixed() []api.Count {
	return list(c(2, s("b"), n(1)), c(1), o(3, 4), c(-1, s("b")), o(5, 4, 0), c(1, s("")))
}

func simpleMade() []made {
	sum, small := of(api.OpAdd, col(0), col(1)), of(api.OpLess, col(1), number(6))
	return []made{
		{"map", mapped(col(0), sum), lists(some()), list(o(2, 1, 6), o(-1, 1, 8), o(1, 2, 8))},
		{"map to one row", mapped(number(7)), lists(some()), list(o(2, 7))},
		{"map to texts", mapped(word("x"), col(1)), lists(some()), list(c(2, s("x"), n(5)), c(1, s("x"), n(6)), c(-1, s("x"), n(7)))},
		{"map to what comes to 0", mapped(col(0)), lists(list(o(2, 1, 5), o(-2, 1, 6), o(1, 0, 3))), list(o(1, 0))},
		{"map turns the order", mapped(of(api.OpNeg, col(0))), lists(list(o(1, 1), o(2, 2), o(3, 3))), list(o(3, -3), o(2, -2), o(1, -1))},
		{"map of no Exprs", mapped(), lists(some()), list(c(2))},
		{"map of no Exprs to 0", mapped(), lists(list(o(1, 1), o(-1, 2))), nil},
		{"map of more Exprs than columns may be", mapped(many(17, number(1))...), lists(list(o(3))), list(o(3, many(17, 1)...))},
		{"map of rows of all sorts", mapped(number(1)), lists(mixed()), list(o(11, 1))},
		{"filter", filter(small), lists(some()), list(o(2, 1, 5))},
		{"filter by 0", filter(number(0)), lists(some()), nil},
		{"filter by 1", filter(number(1)), lists(some()), list(o(2, 1, 5), o(-1, 1, 7), o(1, 2, 6))},
		{"filter by another number", filter(number(-3)), lists(some()), list(o(2, 1, 5), o(-1, 1, 7), o(1, 2, 6))},
		{"filter by the least number", filter(number(low)), lists(list(o(low, 1))), list(o(low, 1))},
		{"filter by a text", filter(word("x")), lists(some()), nil},
		{"filter by a column of numbers and texts", filter(col(0)), lists(list(o(1, 0), o(2, 3), c(3, s("a")), o(4, -1))), list(o(4, -1), o(2, 3))},
		{"filter of rows of all sorts", filter(number(1)), lists(mixed()), list(c(1), o(3, 4), o(5, 4, 0), c(1, s("")), c(-1, s("b")), c(2, s("b"), n(1)))},
		{"project", project(1, 0), lists(some()), list(o(2, 5, 1), o(1, 6, 2), o(-1, 7, 1))},
		{"project to what is the same", project(0), lists(some()), list(o(1, 1), o(1, 2))},
		{"project of no column", project(), lists(some()), list(c(2))},
		{"project of no column to 0", project(), lists(list(o(1, 1), o(-1, 2))), nil},
		{"project of a column several times", project(1, 1, 1), lists(some()), list(o(2, 5, 5, 5), o(1, 6, 6, 6), o(-1, 7, 7, 7))},
		{"project of more columns than may be", project(many(20, 0)...), lists(list(o(3, 1))), list(o(3, many(20, 1)...))},
		{"project of the last column", project(1), lists(some()), list(o(2, 5), o(1, 6), o(-1, 7))},
		{"project of rows of all sorts", project(0), lists(list(o(1, 4, 5), o(1, 4), c(2, s("b"), n(1)))), list(o(2, 4), c(2, s("b")))},
		{"concat of one", plain(api.NodeConcat), lists(some()), list(o(2, 1, 5), o(-1, 1, 7), o(1, 2, 6))},
		{"concat of a list twice", plain(api.NodeConcat), lists(some(), some()), list(o(4, 1, 5), o(-2, 1, 7), o(2, 2, 6))},
		{"concat of MaxIns", plain(api.NodeConcat), many(8, some()), list(o(16, 1, 5), o(-8, 1, 7), o(8, 2, 6))},
		{"concat of two that go up in one another", plain(api.NodeConcat), lists(list(o(1, 1)), list(o(-1, 1))), nil},
		{"concat of some with nothing", plain(api.NodeConcat), lists(nil, list(o(1, 2)), list(), list(o(1, 1))), list(o(1, 1), o(1, 2))},
		{"concat of rows of all sorts", plain(api.NodeConcat), lists(list(c(1, s("a"))), list(o(1, 1)), list(c(1))), list(c(1), o(1, 1), c(1, s("a")))},
		{"negate", plain(api.NodeNegate), lists(some()), list(o(-2, 1, 5), o(1, 1, 7), o(-1, 2, 6))},
		{"negate of rows of all sorts", plain(api.NodeNegate), lists(mixed()), list(c(-1), o(-3, 4), o(-5, 4, 0), c(-1, s("")), c(1, s("b")), c(-2, s("b"), n(1)))},
		{"consolidate", plain(api.NodeConsolidate), lists(some()), list(o(2, 1, 5), o(-1, 1, 7), o(1, 2, 6))},
		{"arrange", plain(api.NodeArrange), lists(some()), list(o(2, 1, 5), o(-1, 1, 7), o(1, 2, 6))},
		{"arrange asks no key", keyed(api.NodeArrange, -5, 99), lists(some()), list(o(2, 1, 5), o(-1, 1, 7), o(1, 2, 6))},
		{"arrange asks no key of short rows", keyed(api.NodeArrange, 99, 0), lists(mixed()), list(c(1), o(3, 4), o(5, 4, 0), c(1, s("")), c(-1, s("b")), c(2, s("b"), n(1)))},
		{"bucket", bucket(1, 4, 2), lists(some()), list(o(2, 1, 5, 2), o(2, 1, 5, 4), o(-1, 1, 7, 4), o(-1, 1, 7, 6), o(1, 2, 6, 4), o(1, 2, 6, 6))},
		{"bucket of the first column", bucket(0, 2, 2), lists(some()), list(o(2, 1, 5, 0), o(-1, 1, 7, 0), o(1, 2, 6, 2))},
		{"bucket of a number between windows", bucket(0, 2, 5), lists(list(o(1, 4), o(1, 6))), list(o(1, 6, 5))},
		{"bucket of numbers below 0", bucket(0, 5, 5), lists(list(o(3, -1))), list(o(3, -1, -5))},
		{"bucket of as many windows as may be", bucket(0, 64, 1), lists(list(o(2, 70))), sixtyFour(2, 70)},
		{"bucket of one column fewer than may be", bucket(14, 1, 1), lists(list(o(2, many(15, 3)...))), list(o(2, many(16, 3)...))},
		{"bucket of rows of other lengths", bucket(0, 1, 1), lists(list(o(1, 4), o(2, 4, 4), c(3, n(4), s("a")))), list(o(1, 4, 4), o(2, 4, 4, 4), c(3, n(4), s("a"), n(4)))},
	}
}

// sixtyFour are the 64 windows of 64 numbers that a number falls into.
func sixtyFour(diff, x int) (l []api.Count) {
	for b := x - 63; b <= x; b++ {
		l = append(l, o(diff, x, b))
	}
	return l
}

func groupMade() []made {
	return []made{
		{"distinct", plain(api.NodeDistinct), lists(some()), list(o(1, 1, 5), o(1, 2, 6))},
		{"distinct asks no key", keyed(api.NodeDistinct, -4, -4), lists(mixed()), list(c(1), o(1, 4), o(1, 4, 0), c(1, s("")), c(1, s("b"), n(1)))},
		{"count", keyed(api.NodeCount, 1, 0), lists(some()), list(o(1, 1, 1), o(1, 2, 1))},
		{"count of all", keyed(api.NodeCount, 0, 0), lists(some()), list(o(1, 2))},
		{"count with all of a row as key", keyed(api.NodeCount, 2, 0), lists(some()), list(o(1, 1, 5, 2), o(1, 1, 7, -1), o(1, 2, 6, 1))},
		{"count of rows that are gone is not asked their key", keyed(api.NodeCount, 2, 0), lists(list(o(1, 4), o(1, 1, 2), o(-1, 4))), list(o(1, 1, 2, 1))},
		{"sum", keyed(api.NodeSum, 1, 1), lists(some()), list(o(1, 1, 3), o(1, 2, 6))},
		{"sum of the key", keyed(api.NodeSum, 0, 0), lists(some()), list(o(1, 3))},
		{"min", keyed(api.NodeMin, 1, 0), lists(some()), list(o(1, 1, 5), o(1, 2, 6))},
		{"min of all", keyed(api.NodeMin, 0, 0), lists(some()), list(o(1, 1, 5))},
		{"max", keyed(api.NodeMax, 1, 0), lists(list(o(1, 1, 5), o(2, 1, 7), o(-1, 2, 9))), list(o(1, 1, 7))},
		{"top", keyed(api.NodeTop, 1, 2), lists(list(o(1, 1, 5), o(2, 1, 7), o(5, 2, 9))), list(o(1, 1, 5), o(1, 1, 7), o(2, 2, 9))},
		{"top of all", keyed(api.NodeTop, 0, 1000), lists(list(o(999, 1), o(7, 2))), list(o(999, 1), o(1, 2))},
	}
}

func joinMade() []made {
	left, right := list(o(2, 1, 5), o(3, 2, 6), o(-1, 1, 7)), list(o(1, 1, 8), o(5, 3, 8), o(-4, 1, 9))
	return []made{
		{"join", join(1), lists(left, right), list(o(2, 1, 5, 8), o(-8, 1, 5, 9), o(-1, 1, 7, 8), o(4, 1, 7, 9))},
		{"join of the other side first", join(1), lists(right, left), list(o(2, 1, 8, 5), o(-1, 1, 8, 7), o(-8, 1, 9, 5), o(4, 1, 9, 7))},
		{"join of a list with itself", join(1), lists(left, left), list(o(4, 1, 5, 5), o(-2, 1, 5, 7), o(-2, 1, 7, 5), o(1, 1, 7, 7), o(9, 2, 6, 6))},
		{"join with the key 0", join(0), lists(list(o(2, 1), o(1, 2)), list(o(3, 7), o(-1, 8))), list(o(6, 1, 7), o(-2, 1, 8), o(3, 2, 7), o(-1, 2, 8))},
		{"join with the key 0 and rows of no value", join(0), lists(list(c(2), o(1, 1)), list(c(5))), list(c(10), o(5, 1))},
		{"join with all of a row as key", join(2), lists(left, list(o(10, 1, 5), o(20, 2, 5), o(30, 2, 6))), list(o(20, 1, 5), o(90, 2, 6))},
		{"join with all of the first one's values as key", join(1), lists(list(o(2, 1)), right), list(o(2, 1, 8), o(-8, 1, 9))},
		{"join with all of the second one's values as key", join(1), lists(right, list(o(2, 1))), list(o(2, 1, 8), o(-8, 1, 9))},
		{"join of nothing with some", join(1), lists(nil, right), nil},
		{"join of some with nothing", join(1), lists(left, list()), nil},
		{"join of nothing with nothing", join(1), lists(nil, nil), nil},
		{"join of nothing asks no key", join(-1), lists(nil, nil), nil},
		{"join of what comes to nothing asks no key", join(9), lists(list(o(1, 1), o(-1, 1)), nil), nil},
		{"join of no key that is the same", join(1), lists(list(o(1, 1), o(1, 3), o(1, 5)), list(o(1, 0), o(1, 2), o(1, 4), o(1, 6))), nil},
		{"join of keys between others", join(1), lists(list(o(1, 1, 0), o(1, 3, 0), o(1, 5, 0)), list(o(1, 0), o(2, 3), o(1, 4), o(3, 5), o(1, 6))), list(o(2, 3, 0), o(3, 5, 0))},
		{"join of texts", join(1), lists(list(c(2, s("a"), n(1)), c(3, s("b"), n(2)), o(4, 0, 3)), list(c(5, s("a"), s("x")), c(7, n(0), s("y")), c(1, s("")))), list(c(28, n(0), n(3), s("y")), c(10, s("a"), n(1), s("x")))},
		{"a number is no text", join(1), lists(list(o(1, 0)), list(c(1, s("")))), nil},
		{"join of the same row several times", join(1), lists(list(o(1, 1, 5), o(1, 1, 5), o(3, 1, 4), o(-3, 1, 4)), list(o(2, 1, 6), o(1, 1, 6))), list(o(6, 1, 5, 6))},
		{"join of rows of other lengths, which make the same", join(1), lists(list(o(2, 1), o(3, 1, 5)), list(o(5, 1, 5, 6), o(7, 1, 6))), list(o(15, 1, 5, 5, 6), o(10+21, 1, 5, 6), o(14, 1, 6))},
		{"join of rows of other lengths, which go up in one another", join(1), lists(list(o(1, 1), o(1, 1, 5)), list(o(1, 1, 5, 6), o(-1, 1, 6))), list(o(1, 1, 5, 5, 6), o(-1, 1, 6))},
		{"join to more columns than may be", join(0), lists(list(o(1, many(16, 1)...)), list(o(2, many(16, 2)...))), list(o(2, append(many(16, 1), many(16, 2)...)...))},
		{"join of 16 values as key", join(16), lists(list(o(3, many(16, 1)...)), list(o(2, many(16, 1)...))), list(o(6, many(16, 1)...))},
	}
}

func TestEachKind(t *testing.T) { // P18.1: told by hand
	holdMade(t, simpleMade())
	holdMade(t, groupMade())
	holdMade(t, joinMade())
}

func TestWhatPlaysNoPart(t *testing.T) { // P18.1: only what is said of a node's kind counts, and Ins and Kinds never do
	for _, k := range slices.Concat(simpleMade(), groupMade(), joinMade()) {
		spoilt := k.node
		spoilt.Ins, spoilt.Kinds = []int{-1, 70, 3}, []int{9, -9}
		switch k.node.Kind {
		case api.NodeMap, api.NodeFilter:
			spoilt.Cols, spoilt.Key, spoilt.N, spoilt.Size, spoilt.Slide = []int{-1}, -1, -1, -1, -1
		case api.NodeBucket:
			spoilt.Exprs, spoilt.Cols, spoilt.Key = [][]api.Term{nil}, []int{-1}, -1
		case api.NodeProject:
			spoilt.Exprs, spoilt.Key, spoilt.N, spoilt.Size, spoilt.Slide = [][]api.Term{nil}, -1, -1, -1, -1
		case api.NodeConcat, api.NodeNegate, api.NodeConsolidate, api.NodeArrange, api.NodeDistinct:
			spoilt.Exprs, spoilt.Cols, spoilt.Key, spoilt.N, spoilt.Size, spoilt.Slide = [][]api.Term{nil}, []int{-1}, -1, -1, -1, -1
		case api.NodeCount, api.NodeMin, api.NodeMax, api.NodeJoin:
			spoilt.N = -1
			fallthrough
		default:
			spoilt.Exprs, spoilt.Cols, spoilt.Size, spoilt.Slide = [][]api.Term{nil}, []int{-1}, -1, -1
		}
		holdMade(t, []made{{k.name, spoilt, k.ins, k.want}})
	}
}

func TestNothing(t *testing.T) { // P18.1: of no row nothing comes, whatever is asked of rows
	for kind := api.NodeMap; kind < api.Nodes; kind++ {
		for _, key := range []int{0, 1, 5} {
			node := api.Node{Kind: kind, Exprs: [][]api.Term{col(7)}, Cols: []int{7}, Key: key, N: 7, Size: 5, Slide: 5}
			for _, none := range [][]api.Count{nil, {}, {o(3, 1), o(-3, 1)}, {c(0, s("x"))}, {o(0, 7), c(1, s("")), o(0, 3), c(-1, s(""))}} {
				ins := lists(none)
				if kind == api.NodeJoin {
					ins = lists(none, nil)
				}
				holdMade(t, []made{{"nothing", node, ins, nil}})
			}
		}
	}
}

func TestOfRowsOnlyWhatIsTold(t *testing.T) { // P18.1: the field that plays no part does not tell rows apart
	odd := func(x int, s string) api.Row { return api.Row{{Kind: num, Int: x, Str: s}} }
	words := func(x int, s string) api.Row { return api.Row{{Kind: text, Int: x, Str: s}} }
	numbers := list(api.Count{Row: odd(1, "a"), Diff: 1}, api.Count{Row: odd(1, "b"), Diff: 1})
	texts := list(api.Count{Row: words(3, "a"), Diff: 1}, api.Count{Row: words(4, "a"), Diff: 1})
	strange := list(c(1, api.Val{Kind: 5, Int: 3}), c(1, api.Val{Kind: 5, Str: "x"}))
	holdMade(t, []made{
		{"numbers", plain(api.NodeConsolidate), lists(numbers), list(o(2, 1))},
		{"texts", plain(api.NodeConsolidate), lists(texts), list(c(2, s("a")))},
		{"values of another kind", plain(api.NodeConsolidate), lists(strange), list(c(2, api.Val{Kind: 5}))},
		{"numbers joined", join(1), lists(numbers, numbers), list(o(4, 1))},
		{"texts joined", join(1), lists(texts, texts[1:]), list(c(2, s("a")))},
		{"values of another kind joined", join(1), lists(strange, strange), list(c(4, api.Val{Kind: 5}))},
		{"numbers as texts are none", filter(col(0)), lists(texts), nil},
		{"numbers with a text", filter(col(0)), lists(numbers), list(o(2, 1))},
		{"numbers of a column", mapped(of(api.OpAdd, col(0), number(1))), lists(numbers), list(o(2, 2))},
	})
}

func TestGreatDiffs(t *testing.T) { // P18.1: where a product or a sum just fits
	one := mapped(number(1))
	holdMade(t, []made{
		{"the greatest", plain(api.NodeConsolidate), lists(list(o(high, 1))), list(o(high, 1))},
		{"the least", plain(api.NodeConsolidate), lists(list(o(low, 1))), list(o(low, 1))},
		{"a sum up to the greatest", plain(api.NodeConsolidate), lists(list(o(high-1, 1), o(1, 1))), list(o(high, 1))},
		{"a sum down to the least", plain(api.NodeConsolidate), lists(list(o(low+1, 1), o(-1, 1))), list(o(low, 1))},
		{"the two together", plain(api.NodeConsolidate), lists(list(o(high, 1), o(low, 1))), list(o(-1, 1))},
		{"concat up to the greatest", plain(api.NodeConcat), lists(list(o(high-1, 1)), list(o(1, 1))), list(o(high, 1))},
		{"concat in an order that goes", plain(api.NodeConcat), lists(list(o(high, 1)), list(o(-1, 1)), list(o(1, 1))), list(o(high, 1))},
		{"concat of an in that is 1 less in all", plain(api.NodeConcat), lists(list(o(high, 1)), list(o(-2, 1), o(1, 1))), list(o(high-1, 1))},
		{"map of rows in an order that goes", one, lists(list(o(1, 3), o(high, 1), o(-1, 2))), list(o(high, 1))},
		{"project of rows in an order that goes", project(), lists(list(o(-1, 3), o(low, 1), o(1, 2))), list(c(low))},
		{"negate of the greatest", plain(api.NodeNegate), lists(list(o(high, 1))), list(o(low+1, 1))},
		{"negate of nearly the least", plain(api.NodeNegate), lists(list(o(low+1, 1))), list(o(high, 1))},
		{"negate of what comes from the least", plain(api.NodeNegate), lists(list(o(low, 1), o(1, 1))), list(o(high, 1))},
		{"bucket of the greatest", bucket(0, 2, 1), lists(list(o(high, 1))), list(o(high, 1, 0), o(high, 1, 1))},
		{"join of the greatest", join(1), lists(list(o(high, 1)), list(o(-1, 1))), list(o(low+1, 1))},
		{"join down to the least", join(1), lists(list(o(low/2, 1)), list(o(2, 1))), list(o(low, 1))},
		{"join of the least with 1", join(1), lists(list(o(1, 1)), list(o(low, 1))), list(o(low, 1))},
		{"join of great ones that do not meet", join(1), lists(list(o(low, 1)), list(o(low, 2))), nil},
		{"join up to the greatest", join(1), lists(list(o(high/7, 1)), list(o(7, 1))), list(o(high, 1))},
		{"join of rows in an order that goes", join(1), lists(splits(high, 1, 1), ends(1, -1, 1)), list(
			o(high, 1, 3), o(-high, 1, 5, 3), o(1, 1, 9, 3), o(high, 1, 9, 5, 3), o(-1, 1, 9, 5, 5, 3), o(1, 1, 9, 5, 9, 5, 3), o(1, 1, 9, 9, 5, 3))},
	})
}

// splits and ends are rows of which three pairs make one and the same: those of the first list rise while those of the second one fall.
func splits(a, b, c int) []api.Count { return list(o(a, 1), o(b, 1, 9), o(c, 1, 9, 5)) }
func ends(a, b, c int) []api.Count   { return list(o(a, 1, 9, 5, 3), o(b, 1, 5, 3), o(c, 1, 3)) }

func shapeFaults() []refused {
	var l []refused
	for _, kind := range []int{api.NodeInput, -1, api.Nodes, api.Nodes + 1, -2, 100, low, high} {
		l = append(l, refused{"no such kind", plain(kind), lists(some()), api.ErrKind})
		for ins := range 10 {
			l = append(l, refused{"no such kind, with any ins", plain(kind), many(ins, some()), api.ErrKind})
		}
	}
	for kind := api.NodeMap; kind < api.Nodes; kind++ {
		bad := []int{0, 2, 3, 8, 9}
		switch kind {
		case api.NodeConcat:
			bad = []int{0, 9, 10, 64}
		case api.NodeJoin:
			bad = []int{0, 1, 3, 4, 8}
		}
		for _, ins := range bad {
			node := api.Node{Kind: kind, Exprs: [][]api.Term{col(0)}, Key: 1, N: 1, Size: 1, Slide: 1, Ins: []int{0}}
			l = append(l, refused{"too few or too many ins", node, many(ins, some()), api.ErrArg}, refused{"of nothing", node, many(ins, []api.Count(nil)), api.ErrArg})
		}
	}
	for _, exprs := range [][][]api.Term{nil, {}, many(2, number(1)), many(3, col(0)), many(65, number(0))} {
		l = append(l, refused{"a filter of not just one", filter(exprs...), lists(some()), api.ErrArg}, refused{"a filter of nothing", filter(exprs...), lists(nil), api.ErrArg})
	}
	return l
}

// long is the longest text that may be.
func long() string { return strings.Repeat("x", api.MaxText) }

func rowFaults() []refused {
	pairs := lists(list(o(1, 1, 2), o(1, 3, 4)))
	cat := of(api.OpCat, col(0), word("y"))
	return []refused{
		{"map of a column that is none", mapped(col(0), col(2)), pairs, api.ErrRange},
		{"map of no step", mapped(number(1), nil), pairs, api.ErrArg},
		{"map of too many steps", mapped(many(65, api.Term{Op: api.OpInt})), pairs, api.ErrMany},
		{"map of no such step", mapped([]api.Term{{Op: 19}}), pairs, api.ErrKind},
		{"map of a long text", mapped(word(long() + "x")), pairs, api.ErrLong},
		{"map of steps that leave two", mapped(slices.Concat(col(0), col(1))), pairs, api.ErrForm},
		{"map of a text as a number", mapped(of(api.OpNeg, col(0))), lists(list(c(1, s("a")))), api.ErrType},
		{"map to a number that is too great", mapped(of(api.OpAdd, col(0), number(1))), lists(list(o(1, high))), api.ErrOver},
		{"map to a text that is too long", mapped(cat), lists(list(c(1, s(long())))), api.ErrLong},
		{"filter by a column that is none", filter(col(2)), pairs, api.ErrRange},
		{"filter by no step", filter(nil), pairs, api.ErrArg},
		{"filter by a text as a number", filter(of(api.OpNot, col(0))), lists(list(c(1, s("a")))), api.ErrType},
		{"filter by a number that is too great", filter(of(api.OpNeg, col(0))), lists(list(o(1, low))), api.ErrOver},
		{"filter by a text that is too long", filter(cat), lists(list(c(1, s(long())))), api.ErrLong},
		{"project of a column that is none", project(0, 2), pairs, api.ErrRange},
		{"project of a column below 0", project(-1), pairs, api.ErrRange},
		{"project of a short row", project(1), lists(list(o(1, 1, 2), o(1, 3))), api.ErrRange},
		{"negate of the least", plain(api.NodeNegate), lists(list(o(1, 1), o(low, 2))), api.ErrOver},
		{"negate of a sum that is the least", plain(api.NodeNegate), lists(list(o(low+1, 2), o(-1, 2))), api.ErrOver},
		{"bucket of a column that is none", bucket(2, 1, 1), pairs, api.ErrRange},
		{"bucket of a column below 0", bucket(-1, 1, 1), pairs, api.ErrRange},
		{"bucket of a long row", bucket(0, 1, 1), lists(list(o(1, many(16, 1)...))), api.ErrMany},
		{"bucket of a text", bucket(0, 1, 1), lists(list(c(1, s("a")))), api.ErrType},
		{"bucket of no size", bucket(0, 0, 1), pairs, api.ErrArg},
		{"bucket of no slide", bucket(0, 1, 0), pairs, api.ErrArg},
		{"bucket of too many windows", bucket(0, 65, 1), pairs, api.ErrMany},
		{"bucket of a number that is too great", bucket(0, 1, 1), lists(list(o(1, api.MaxPoint+1))), api.ErrOver},
	}
}

func groupFaults() []refused {
	pairs := lists(list(o(1, 1, 2), o(1, 3, 4)))
	var l []refused
	for _, kind := range []int{api.NodeCount, api.NodeSum, api.NodeMin, api.NodeMax, api.NodeTop} {
		l = append(l, refused{"a key below 0", keyed(kind, -1, 1), pairs, api.ErrRange}, refused{"a key below 0, of nothing", keyed(kind, -1, 1), lists(nil), api.ErrRange},
			refused{"a key above the length", keyed(kind, 3, 1), pairs, api.ErrRange}, refused{"a key above the length of one", keyed(kind, 2, 0), lists(list(o(1, 1, 2), o(1, 3))), api.ErrRange})
	}
	return append(l, []refused{
		{"a top of 0", keyed(api.NodeTop, 1, 0), pairs, api.ErrArg},
		{"a top of 0 of nothing", keyed(api.NodeTop, 1, 0), lists(nil), api.ErrArg},
		{"a top of too many", keyed(api.NodeTop, 1, 1001), pairs, api.ErrArg},
		{"a sum of a column that is none", keyed(api.NodeSum, 1, 2), pairs, api.ErrRange},
		{"a sum of a text", keyed(api.NodeSum, 0, 0), lists(list(c(1, s("a")))), api.ErrType},
		{"a sum that is too great", keyed(api.NodeSum, 0, 0), lists(list(o(1, 1), o(1, high))), api.ErrOver},
		{"a product that is too great", keyed(api.NodeSum, 0, 0), lists(list(o(2, high))), api.ErrOver},
		{"a count that is too great", keyed(api.NodeCount, 0, 0), lists(list(o(1, 1), o(high, 2))), api.ErrOver},
	}...)
}

func joinFaults() []refused {
	pairs, singles := list(o(1, 1, 2), o(1, 3, 4)), list(o(1, 1), o(1, 3))
	return []refused{
		{"a key below 0", join(-1), lists(pairs, pairs), api.ErrRange},
		{"a key below 0, and nothing in the second one", join(-1), lists(pairs, nil), api.ErrRange},
		{"a key below 0, and nothing in the first one", join(-1), lists(nil, pairs), api.ErrRange},
		{"the least key", join(low), lists(pairs, pairs), api.ErrRange},
		{"the greatest key", join(high), lists(pairs, pairs), api.ErrRange},
		{"a key above the first one's length", join(2), lists(singles, pairs), api.ErrRange},
		{"a key above the second one's length", join(2), lists(pairs, singles), api.ErrRange},
		{"a key above both", join(3), lists(pairs, pairs), api.ErrRange},
		{"a key above the length of the last row of the first one", join(2), lists(list(o(1, 1, 2), o(1, 3)), pairs), api.ErrRange},
		{"a key above the length of the last row of the second one", join(2), lists(pairs, list(o(1, 1, 2), o(1, 3))), api.ErrRange},
		{"a short row in the first one, and nothing in the second one", join(2), lists(singles, nil), api.ErrRange},
		{"nothing in the first one, and a short row in the second one", join(2), lists(nil, singles), api.ErrRange},
		{"a product that is too great", join(1), lists(list(o(high, 1)), list(o(2, 1))), api.ErrOver},
		{"the least less often than never", join(1), lists(list(o(low, 1)), list(o(-1, 1))), api.ErrOver},
		{"never, the least often", join(1), lists(list(o(-1, 1)), list(o(low, 1))), api.ErrOver},
		{"a product that is one too great", join(1), lists(list(o(1<<62, 1)), list(o(2, 1))), api.ErrOver},
		{"a product of a later key", join(1), lists(list(o(1, 1), o(high, 2)), list(o(1, 1), o(high, 2))), api.ErrOver},
		{"a product of a later row", join(1), lists(list(o(1, 1, 1), o(high, 1, 2)), list(o(1, 1), o(2, 1, 2))), api.ErrOver},
		{"a sum of what is the same", join(1), lists(list(o(high, 1), o(1, 1, 5)), list(o(1, 1, 5, 6), o(1, 1, 6))), api.ErrOver},
		{"a sum in an order that does not go", join(1), lists(splits(high, 1, 1), ends(1, 1, -1)), api.ErrOver},
	}
}

func sumFaults() []refused {
	over, under := list(o(high, 1), o(1, 1)), list(o(low, 1), o(-1, 1))
	l := []refused{
		{"concat of what is too great together", plain(api.NodeConcat), lists(list(o(high, 1)), list(o(1, 1))), api.ErrOver},
		{"concat of what is too little together", plain(api.NodeConcat), lists(list(o(low, 1)), nil, list(o(-1, 1))), api.ErrOver},
		{"concat in an order that does not go", plain(api.NodeConcat), lists(list(o(high, 1)), list(o(1, 1)), list(o(-1, 1))), api.ErrOver},
		{"concat of a later in", plain(api.NodeConcat), lists(nil, list(o(1, 1)), over), api.ErrOver},
		{"a list that does not go in the order in which it stands", plain(api.NodeConsolidate), lists(list(o(high, 1), o(1, 1), o(-1, 1))), api.ErrOver},
		{"map to one row", mapped(number(1)), lists(list(o(high, 1), o(1, 2))), api.ErrOver},
		{"map of rows in an order that does not go", mapped(number(1)), lists(list(o(-1, 3), o(high, 1), o(1, 2))), api.ErrOver},
		{"project of rows in an order that does not go", project(), lists(list(o(1, 3), o(low, 1), o(-1, 2))), api.ErrOver},
		{"join of a first in", join(1), lists(over, list(o(1, 2))), api.ErrOver},
		{"join of a second in", join(1), lists(list(o(1, 2)), under), api.ErrOver},
	}
	for kind := api.NodeMap; kind < api.Nodes; kind++ {
		node := api.Node{Kind: kind, Exprs: [][]api.Term{number(0)}, N: 1, Size: 1, Slide: 1}
		count := 1
		if kind == api.NodeJoin {
			count = 2
		}
		l = append(l, refused{"a sum of an in", node, many(count, over), api.ErrOver}, refused{"a sum of an in", node, many(count, under), api.ErrOver})
	}
	return l
}

func TestNodeRefuses(t *testing.T) { // P18.1: told by hand, each error by itself
	holdRefused(t, shapeFaults())
	holdRefused(t, rowFaults())
	holdRefused(t, groupFaults())
	holdRefused(t, joinFaults())
	holdRefused(t, sumFaults())
}

func TestFirstOfTwoFaults(t *testing.T) { // P18.1: the one that the chapter names first
	over := list(o(high, 1), o(1, 1))
	neg := of(api.OpNeg, col(0))
	holdRefused(t, []refused{
		{"a sum of an in, ahead of the kind", plain(-1), lists(over), api.ErrOver},
		{"a sum of an in, ahead of the kind of an input", plain(api.NodeInput), lists(nil, over), api.ErrOver},
		{"a sum of an in, ahead of the number of ins", plain(api.NodeNegate), lists(nil, over), api.ErrOver},
		{"a sum of an in, ahead of a filter's Exprs", filter(), lists(over), api.ErrOver},
		{"the kind, ahead of the number of ins", plain(16), nil, api.ErrKind},
		{"the kind of an input, ahead of the number of ins", plain(api.NodeInput), nil, api.ErrKind},
		{"the number of ins, ahead of rows", project(5), lists(list(o(1, 1)), list(o(1, 1))), api.ErrArg},
		{"the number of ins, ahead of a key", join(-1), lists(list(o(1, 1))), api.ErrArg},
		{"the number of ins, ahead of a group's key", keyed(api.NodeCount, -1, 0), lists(list(o(1, 1)), nil), api.ErrArg},
		{"a filter's Exprs, ahead of rows", filter(col(5), col(5)), lists(list(o(1, 1))), api.ErrArg},
		{"a sum of an in, ahead of rows", project(5), lists(list(o(1, 0), o(high, 1), o(1, 1))), api.ErrOver},
		{"a sum of the second in, ahead of rows of the first one", join(2), lists(list(o(1, 1)), over), api.ErrOver},
		{"a sum of the second in, ahead of a key below 0", join(-1), lists(list(o(1, 1)), over), api.ErrOver},
		{"a sum of an in, ahead of a group's key", keyed(api.NodeCount, -1, 0), lists(over), api.ErrOver},
		{"a sum of an in, ahead of how many of a top", keyed(api.NodeTop, 0, 0), lists(over), api.ErrOver},

		// The first row in the order of rows, however they stand.
		{"a number, then a text", mapped(neg), lists(list(c(1, s("a")), o(1, low))), api.ErrOver},
		{"a row of no value, then others", mapped(neg), lists(list(c(1, s("a")), o(1, low), c(1))), api.ErrRange},
		{"a text in front of another row", mapped(neg), lists(list(c(1, s("a"), n(0)), c(1, s("a")))), api.ErrType},
		{"filter: a number, then a text", filter(neg), lists(list(c(1, s("a")), o(1, low))), api.ErrOver},
		{"filter: a row of no value, then others", filter(neg), lists(list(o(1, low), c(1, s("a")), c(1))), api.ErrRange},
		{"bucket: a number that is too great, then a text", bucket(0, 1, 1), lists(list(c(1, s("a")), o(1, high))), api.ErrOver},
		{"bucket: a row of no value, then others", bucket(0, 1, 1), lists(list(c(1, s("a")), o(1, high), c(1))), api.ErrRange},
		{"bucket: a long row, then a text", bucket(0, 1, 1), lists(list(c(1, s("a")), o(1, many(16, 1)...))), api.ErrMany},
		{"bucket: of one row its column, ahead of the size", bucket(1, 0, 1), lists(list(o(1, 1))), api.ErrRange},

		// Of one row the first one of Exprs.
		{"a column, then a text", mapped(col(7), neg), lists(list(c(1, s("a")))), api.ErrRange},
		{"a text, then a column", mapped(neg, col(7)), lists(list(c(1, s("a")))), api.ErrType},
		{"the second one of the first row, ahead of the first one of the second row", mapped(neg, col(1)), lists(list(o(1, 1), o(1, low, 1))), api.ErrOver},

		// Rows, ahead of the sum of what is made.
		{"a later row, ahead of the sum of the first ones", mapped(of(api.OpMul, col(0), number(0)), col(1)), lists(list(o(high, 1, 1), o(1, 2, 1), o(1, 3))), api.ErrRange},
		{"project: a later row, ahead of the sum", project(1), lists(list(o(high, 1, 1), o(1, 2, 1), o(1, 3))), api.ErrRange},

		// A join's keys, ahead of its products and sums.
		{"a key of the first in, ahead of a product", join(1), lists(list(c(1), o(high, 1)), list(o(2, 1))), api.ErrRange},
		{"a key of the second in, ahead of a product", join(2), lists(list(o(high, 1, 1)), list(o(2, 1, 1), o(1, 5))), api.ErrRange},
		{"a key of a row that meets none, ahead of a product", join(2), lists(list(o(high, 1, 1), o(1, 9)), list(o(2, 1, 1))), api.ErrRange},
		{"a group's key, ahead of how many", keyed(api.NodeTop, -1, 0), lists(list(o(1, 1))), api.ErrRange},
	})
}

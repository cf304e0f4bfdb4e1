package linear_test

import (
	"math"
	"slices"
	"strings"
	"testing"

	"runnel/api"
	"runnel/linear"
	"runnel/row"
)

const (
	low  = math.MinInt
	high = math.MaxInt
	num  = api.KindInt
	text = api.KindStr
)

func n(x int) api.Val    { return api.Val{Kind: num, Int: x} }
func s(x string) api.Val { return api.Val{Kind: text, Str: x} }

// odd is a value whose kind is none.
func odd(kind int) api.Val { return api.Val{Kind: kind, Int: 7, Str: "odd"} }

// r is a row of numbers, v one of any values.
func r(l ...int) api.Row {
	var values api.Row
	for _, x := range l {
		values = append(values, n(x))
	}
	return values
}

func v(l ...api.Val) api.Row { return l }

func at(epoch, round int) api.Time { return api.Time{Epoch: epoch, Round: round} }

func up(values api.Row, epoch, round, diff int) api.Up {
	return api.Up{Row: values, Time: at(epoch, round), Diff: diff}
}

func rows(l ...api.Row) []api.Row { return l }
func ups(l ...api.Up) []api.Up    { return l }

func mapped(exprs ...[]api.Term) api.Node { return api.Node{Kind: api.NodeMap, Exprs: exprs} }
func filter(exprs ...[]api.Term) api.Node { return api.Node{Kind: api.NodeFilter, Exprs: exprs} }
func project(cols ...int) api.Node        { return api.Node{Kind: api.NodeProject, Cols: cols} }
func concat() api.Node                    { return api.Node{Kind: api.NodeConcat} }
func negate() api.Node                    { return api.Node{Kind: api.NodeNegate} }
func bucket(col, size, slide int) api.Node {
	return api.Node{Kind: api.NodeBucket, N: col, Size: size, Slide: slide}
}
func col(i int) []api.Term     { return []api.Term{{Op: api.OpCol, Int: i}} }
func number(x int) []api.Term  { return []api.Term{{Op: api.OpInt, Int: x}} }
func word(x string) []api.Term { return []api.Term{{Op: api.OpStr, Str: x}} }

// of is a step behind others.
func of(op int, l ...[]api.Term) []api.Term {
	return append(slices.Concat(l...), api.Term{Op: op})
}

// many is so many of one thing.
func many[T any](count int, x T) []T { return slices.Repeat([]T{x}, count) }

// long is the longest text that may be.
func long() string { return strings.Repeat("x", api.MaxText) }

// same: are they, one by one, in this order? Nil and empty lists are alike.
func same(a, b []api.Up) bool {
	return slices.EqualFunc(a, b, func(x, y api.Up) bool {
		return row.Same(x.Row, y.Row) && x.Time == y.Time && x.Diff == y.Diff
	})
}

func holdDo(t *testing.T, name string, k api.Node, u api.Up, want []api.Up, wantErr api.Errno) {
	t.Helper()
	if got, e := linear.Do(k, u); !same(got, want) || e != wantErr {
		t.Errorf("%s: Do(%+v, %v) = %v, %d, want %v, %d", name, k, u, got, e, want, wantErr)
	}
}

func holdAll(t *testing.T, name string, k api.Node, l, want []api.Up, wantErr api.Errno) {
	t.Helper()
	if got, e := linear.All(k, l); !same(got, want) || e != wantErr {
		t.Errorf("%s: All(%+v, %v) = %v, %d, want %v, %d", name, k, l, got, e, want, wantErr)
	}
}

func TestThePage(t *testing.T) { // P20.1: the page's example
	five := up(r(5), 1, 0, 1)
	first, second := up(r(5, 2), 1, 0, 1), up(r(5, 4), 1, 0, 1)
	holdDo(t, "the page", bucket(0, 4, 2), five, ups(first, second), api.OK)
	holdAll(t, "the page", bucket(0, 4, 2), ups(five, five), ups(first, second, first, second), api.OK)
}

// sixKinds are those that do with each change by itself.
func sixKinds() []int {
	return []int{api.NodeMap, api.NodeFilter, api.NodeProject, api.NodeConcat, api.NodeNegate, api.NodeBucket}
}

// otherKinds are those that do not, and numbers that are no kind.
func otherKinds() []int {
	return []int{api.NodeInput, api.NodeConsolidate, api.NodeArrange, api.NodeDistinct, api.NodeCount, api.NodeSum, api.NodeMin, api.NodeMax, api.NodeTop, api.NodeJoin,
		-1, -2, -7, api.Nodes, api.Nodes + 1, 1000, 1 << 32, 1<<32 + 1, 1<<40 + 7, low, low + 1, high, high - 1}
}

func TestIs(t *testing.T) { // P20.1: each kind that there is, and numbers that are none
	for _, kind := range sixKinds() {
		if !linear.Is(kind) {
			t.Errorf("Is(%d) = false", kind)
		}
	}
	for _, kind := range otherKinds() {
		if linear.Is(kind) {
			t.Errorf("Is(%d) = true", kind)
		}
	}
	for kind := -300; kind <= 300; kind++ {
		if got, want := linear.Is(kind), slices.Contains(sixKinds(), kind); got != want {
			t.Errorf("Is(%d) = %v", kind, got)
		}
	}
}

// done is what a node makes of a row, by whatever change it comes.
type done struct {
	name string
	node api.Node
	row  api.Row
	want []api.Row
}

// exprDone are rows that a node with Exprs makes.
func exprDone() []done {
	less := of(api.OpLess, col(1), number(6))
	return []done{
		{"map", mapped(col(0), of(api.OpAdd, col(0), col(1))), r(5, 7), rows(r(5, 12))},
		{"map to one value", mapped(of(api.OpNeg, col(1))), r(5, 7), rows(r(-7))},
		{"map to one row whatever comes", mapped(number(3)), v(s("a"), n(1)), rows(r(3))},
		{"map of no Exprs", mapped(), r(5, 7), rows(r())},
		{"map of no Exprs and no value", mapped(), nil, rows(r())},
		{"map of a row of no value", mapped(word("x")), nil, rows(v(s("x")))},
		{"map to texts and numbers", mapped(word("x"), col(1), of(api.OpCat, col(0), word("y")), of(api.OpLen, col(0))), v(s("ab"), n(4)), rows(v(s("x"), n(4), s("aby"), n(2)))},
		{"map of one column several times", mapped(col(0), col(0), col(0)), v(s("a")), rows(v(s("a"), s("a"), s("a")))},
		{"map in the order of Exprs", mapped(number(3), number(1), number(2)), r(), rows(r(3, 1, 2))},
		{"map to more values than may be", mapped(many(17, number(1))...), r(9), rows(r(many(17, 1)...))},
		{"map of more values than may be", mapped(col(19)), append(r(many(19, 1)...), n(6)), rows(r(6))},
		{"map to the longest text", mapped(col(0)), v(s(long())), rows(v(s(long())))},
		{"map of a longer text than may be", mapped(col(0)), v(s(long() + "x")), rows(v(s(long() + "x")))},
		{"map to the least and the greatest number", mapped(col(1), col(0)), r(high, low), rows(r(low, high))},
		{"map of a value of another kind", mapped(col(1), col(0)), v(odd(5), n(2)), rows(v(n(2), odd(5)))},
		{"map to a 0", mapped(number(0)), r(5), rows(r(0))},
		{"filter", filter(less), r(9, 5), rows(r(9, 5))},
		{"filter that takes out", filter(less), r(9, 6), nil},
		{"filter by 0", filter(number(0)), r(5, 7), nil},
		{"filter by 1", filter(number(1)), r(5, 7), rows(r(5, 7))},
		{"filter by another number", filter(number(-3)), r(5, 7), rows(r(5, 7))},
		{"filter by the least number", filter(number(low)), r(5), rows(r(5))},
		{"filter by the greatest number", filter(number(high)), r(5), rows(r(5))},
		{"filter by a multiple of 2^32", filter(number(1 << 32)), r(5), rows(r(5))},
		{"filter by a text", filter(word("x")), r(5, 7), nil},
		{"filter by an empty text", filter(word("")), r(5, 7), nil},
		{"filter by a column that is 0", filter(col(1)), r(5, 0), nil},
		{"filter by a column that is not 0", filter(col(1)), r(0, -5), rows(r(0, -5))},
		{"filter by a column with a text", filter(col(0)), v(s("a"), n(1)), nil},
		{"filter by a text with a number beside it", filter(col(0)), v(api.Val{Kind: text, Int: 1, Str: "a"}), nil},
		{"filter by a value of another kind", filter(col(0)), v(odd(5)), nil},
		{"filter by how long a text is", filter(of(api.OpLen, col(0))), v(s("a")), rows(v(s("a")))},
		{"filter of a row of no value", filter(number(1)), nil, rows(r())},
		{"filter of more values than may be", filter(number(1)), r(many(20, 4)...), rows(r(many(20, 4)...))},
	}
}

// plainDone are rows that the other nodes make.
func plainDone() []done {
	l := []done{
		{"project", project(1, 0), r(5, 7), rows(r(7, 5))},
		{"project of no column", project(), r(5, 7), rows(r())},
		{"project of no column and no value", project(), nil, rows(r())},
		{"project of a column several times", project(1, 1, 1), r(5, 7), rows(r(7, 7, 7))},
		{"project of the first column", project(0), v(s("a"), n(7)), rows(v(s("a")))},
		{"project of the last column", project(2), v(s("a"), n(7), s("c")), rows(v(s("c")))},
		{"project of more columns than may be", project(many(20, 0)...), r(3), rows(r(many(20, 3)...))},
		{"project of more values than may be", project(19, 0), append(r(many(19, 1)...), n(6)), rows(r(6, 1))},
		{"project of values of all kinds", project(2, 1, 0), v(s(""), n(low), odd(-1)), rows(v(odd(-1), n(low), s("")))},
		{"bucket of one window", bucket(0, 2, 2), r(5), rows(r(5, 4))},
		{"bucket of several windows", bucket(0, 4, 2), r(5), rows(r(5, 2), r(5, 4))},
		{"bucket of three windows", bucket(0, 6, 2), r(5), rows(r(5, 0), r(5, 2), r(5, 4))},
		{"bucket of no window", bucket(0, 2, 5), r(4), nil},
		{"bucket of the first number of a window", bucket(0, 2, 5), r(5), rows(r(5, 5))},
		{"bucket of the last number of a window", bucket(0, 2, 5), r(6), rows(r(6, 5))},
		{"bucket of the number behind a window", bucket(0, 2, 5), r(7), nil},
		{"bucket of the first column", bucket(0, 4, 2), r(5, 90, 40), rows(r(5, 90, 40, 2), r(5, 90, 40, 4))},
		{"bucket of the last column", bucket(2, 4, 2), r(90, 40, 5), rows(r(90, 40, 5, 2), r(90, 40, 5, 4))},
		{"bucket of a column between texts", bucket(1, 3, 3), v(s("a"), n(5), s("b")), rows(v(s("a"), n(5), s("b"), n(3)))},
		{"bucket of a number below 0", bucket(0, 5, 5), r(-1), rows(r(-1, -5))},
		{"bucket of windows from below 0 on", bucket(0, 4, 2), r(0), rows(r(0, -2), r(0, 0))},
		{"bucket of as many windows as may be", bucket(0, 64, 1), r(70), sixtyFour(70)},
		{"bucket of one value fewer than may be", bucket(14, 1, 1), r(many(15, 3)...), rows(r(many(16, 3)...))},
		{"bucket of the greatest number that may be", bucket(0, 1, 1), r(1 << 60), rows(r(1<<60, 1<<60))},
		{"bucket of the least number that may be", bucket(0, 1<<40, 1<<40), r(-1 << 60), rows(r(-1<<60, -1<<60))},
		{"bucket of a number with a text beside it", bucket(0, 1, 1), v(api.Val{Kind: num, Int: 3, Str: "a"}), rows(r(3, 3))},
		{"bucket beside a value of another kind", bucket(1, 1, 1), v(odd(2), n(3)), rows(v(odd(2), n(3), n(3)))},
	}
	for _, x := range allSorts() {
		l = append(l, done{"concat", concat(), x, rows(x)}, done{"negate", negate(), x, rows(x)})
	}
	return l
}

// sixtyFour are the 64 windows of 64 numbers that a number falls into.
func sixtyFour(x int) (l []api.Row) {
	for b := x - 63; b <= x; b++ {
		l = append(l, r(x, b))
	}
	return l
}

// allSorts are rows of other lengths and kinds, such as may not be, too.
func allSorts() []api.Row {
	return rows(nil, r(5), r(5, 7), r(0), r(low, high), v(s("")), v(s("a"), n(1), s("b")), v(s(long())), v(s(long()+"x")), r(many(16, 1)...), r(many(40, 2)...), v(odd(2)), v(odd(-1), n(1), odd(low)))
}

func allDone() []done { return append(exprDone(), plainDone()...) }

// times and diffs are those with which rows come: nothing is asked of them.
func times() []api.Time {
	return []api.Time{at(0, 0), at(1, 2), at(2, 1), at(api.MaxTime, api.MaxTime), at(-1, api.MaxTime+1), at(low, high)}
}

func diffs() []int { return []int{0, 1, -1, 2, -3, 1 << 32, -1 << 40, high, high - 1, low, low + 1} }

// with are rows as changes with a time and a Diff.
func with(l []api.Row, when api.Time, diff int) []api.Up {
	var made []api.Up
	for _, x := range l {
		made = append(made, api.Up{Row: x, Time: when, Diff: diff})
	}
	return made
}

// through is what a change's Diff becomes. That of the least number by a negate is too great.
func through(k api.Node, diff int) (int, bool) {
	if k.Kind != api.NodeNegate {
		return diff, true
	}
	return 0 - diff, diff != low
}

func TestEachKind(t *testing.T) { // P20.1: told by hand; at any time, with any Diff, also with 0
	for _, k := range allDone() {
		for _, when := range times() {
			for _, diff := range diffs() {
				u := api.Up{Row: k.row, Time: when, Diff: diff}
				out, fits := through(k.node, diff)
				if !fits {
					holdDo(t, k.name, k.node, u, nil, api.ErrOver)
					continue
				}
				holdDo(t, k.name, k.node, u, with(k.want, when, out), api.OK)
				holdAll(t, k.name, k.node, ups(u), with(k.want, when, out), api.OK)
			}
		}
	}
}

func TestDiffs(t *testing.T) { // P20.1: a 0 goes through; of a negate the least number is too great, and the one above it is not
	for _, k := range []struct{ diff, want int }{{0, 0}, {1, -1}, {-1, 1}, {high, low + 1}, {low + 1, high}, {5, -5}} {
		holdDo(t, "negate", negate(), up(r(5), 1, 2, k.diff), ups(up(r(5), 1, 2, k.want)), api.OK)
	}
	holdDo(t, "negate of the least", negate(), up(r(5), 1, 2, low), nil, api.ErrOver)
	for _, k := range []api.Node{mapped(col(0)), filter(number(1)), project(0), concat()} {
		for _, diff := range diffs() {
			holdDo(t, "as it is", k, up(r(5), 1, 2, diff), ups(up(r(5), 1, 2, diff)), api.OK)
		}
	}
	holdDo(t, "a 0 in windows", bucket(0, 4, 2), up(r(5), 1, 2, 0), ups(up(r(5, 2), 1, 2, 0), up(r(5, 4), 1, 2, 0)), api.OK)
	holdDo(t, "the least in windows", bucket(0, 4, 2), up(r(5), 1, 2, low), ups(up(r(5, 2), 1, 2, low), up(r(5, 4), 1, 2, low)), api.OK)
}

func TestWhatPlaysNoPart(t *testing.T) { // P20.1: only what is said of a node's kind counts
	for _, k := range allDone() {
		spoilt := k.node
		spoilt.Ins, spoilt.Kinds, spoilt.Key = []int{-1, 70, 3}, []int{9, -9}, low
		if k.node.Kind != api.NodeMap && k.node.Kind != api.NodeFilter {
			spoilt.Exprs = [][]api.Term{nil, {{Op: 99}}}
		}
		if k.node.Kind != api.NodeProject {
			spoilt.Cols = []int{-1, high}
		}
		if k.node.Kind != api.NodeBucket {
			spoilt.N, spoilt.Size, spoilt.Slide = -1, low, 0
		}
		diff, _ := through(k.node, 3)
		holdDo(t, k.name, spoilt, api.Up{Row: k.row, Time: at(4, 1), Diff: 3}, with(k.want, at(4, 1), diff), api.OK)
	}
}

// listed is what a node makes of several changes.
type listed struct {
	name    string
	node    api.Node
	l, want []api.Up
}

func allListed() []listed {
	some := ups(up(r(5, 7), 1, 0, 2), up(r(1, 0), 0, 3, -1), up(r(5, 7), 1, 0, 2), up(r(9, 9), 0, 0, 0), up(r(5, 7), 1, 0, -4))
	return []listed{
		{"map", mapped(col(1)), some, ups(up(r(7), 1, 0, 2), up(r(0), 0, 3, -1), up(r(7), 1, 0, 2), up(r(9), 0, 0, 0), up(r(7), 1, 0, -4))},
		{"map to one row", mapped(), some[:3], ups(up(nil, 1, 0, 2), up(nil, 0, 3, -1), up(nil, 1, 0, 2))},
		{"filter", filter(col(1)), some, ups(up(r(5, 7), 1, 0, 2), up(r(5, 7), 1, 0, 2), up(r(9, 9), 0, 0, 0), up(r(5, 7), 1, 0, -4))},
		{"filter that takes out the first and the last", filter(of(api.OpLess, col(0), number(5))), some, some[1:2]},
		{"filter that takes out all", filter(number(0)), some, nil},
		{"filter that takes out none", filter(number(1)), some, some},
		{"project", project(0), some, ups(up(r(5), 1, 0, 2), up(r(1), 0, 3, -1), up(r(5), 1, 0, 2), up(r(9), 0, 0, 0), up(r(5), 1, 0, -4))},
		{"concat", concat(), some, some},
		{"negate", negate(), some, ups(up(r(5, 7), 1, 0, -2), up(r(1, 0), 0, 3, 1), up(r(5, 7), 1, 0, -2), up(r(9, 9), 0, 0, 0), up(r(5, 7), 1, 0, 4))},
		{"bucket", bucket(0, 2, 4), some, ups(up(r(5, 7, 4), 1, 0, 2), up(r(1, 0, 0), 0, 3, -1), up(r(5, 7, 4), 1, 0, 2), up(r(9, 9, 8), 0, 0, 0), up(r(5, 7, 4), 1, 0, -4))},
		{"bucket of no window, one and two", bucket(0, 3, 2), ups(up(r(2), 1, 0, 1), up(r(3), 2, 0, 5), up(r(-2), 0, 0, 1)), ups(up(r(2, 0), 1, 0, 1), up(r(2, 2), 1, 0, 1), up(r(3, 2), 2, 0, 5), up(r(-2, -4), 0, 0, 1), up(r(-2, -2), 0, 0, 1))},
		{"bucket of none between others", bucket(0, 1, 3), ups(up(r(1), 1, 0, 1), up(r(3), 1, 1, 1), up(r(4), 1, 2, 1), up(r(6), 1, 3, 1), up(r(8), 1, 4, 1)), ups(up(r(3, 3), 1, 1, 1), up(r(6, 6), 1, 3, 1))},
		{"changes that come to 0 together", concat(), ups(up(r(5), 1, 0, 1), up(r(5), 1, 0, -1)), ups(up(r(5), 1, 0, 1), up(r(5), 1, 0, -1))},
		{"what is made comes to 0 together", mapped(), ups(up(r(5), 1, 0, 1), up(r(6), 1, 0, -1)), ups(up(nil, 1, 0, 1), up(nil, 1, 0, -1))},
		{"changes whose sum is too great", concat(), ups(up(r(5), 1, 0, high), up(r(5), 1, 0, high)), ups(up(r(5), 1, 0, high), up(r(5), 1, 0, high))},
		{"changes that do not rise", concat(), ups(up(r(5), 3, 0, 1), up(r(4), 0, 0, 1), up(r(3), 1, 9, 1)), ups(up(r(5), 3, 0, 1), up(r(4), 0, 0, 1), up(r(3), 1, 9, 1))},
		{"rows of all sorts", negate(), with(allSorts(), at(2, 2), 3), with(allSorts(), at(2, 2), -3)},
	}
}

func TestSeveral(t *testing.T) { // P20.1: All, told by hand, one behind the other
	for _, k := range allListed() {
		holdAll(t, k.name, k.node, k.l, k.want, api.OK)
		var each []api.Up
		for _, u := range k.l {
			made, _ := linear.Do(k.node, u)
			each = append(each, made...)
		}
		if !same(each, k.want) {
			t.Errorf("%s: Do of each: %v, want %v", k.name, each, k.want)
		}
		for count := range k.l {
			both := slices.Concat(k.l[:count], k.l)
			first, e := linear.All(k.node, k.l[:count])
			if e != api.OK {
				t.Errorf("%s: All(%v) = %d", k.name, k.l[:count], e)
			}
			holdAll(t, k.name+" behind some", k.node, both, slices.Concat(first, k.want), api.OK)
		}
	}
}

func TestNoChange(t *testing.T) { // P20.1: Do of none is nothing, whatever the node is
	nodes := []api.Node{{}, mapped(), mapped(nil), filter(), filter(number(1)), filter(number(1), number(1)), project(-1), concat(), negate(), bucket(-1, 0, 0)}
	for _, kind := range append(otherKinds(), sixKinds()...) {
		nodes = append(nodes, api.Node{Kind: kind}, api.Node{Kind: kind, Exprs: [][]api.Term{nil, nil}})
	}
	for _, k := range nodes {
		holdAll(t, "nil", k, nil, nil, api.OK)
		holdAll(t, "no change", k, ups(), nil, api.OK)
		holdAll(t, "no change, with spare room", k, ups(up(r(5), 0, 0, 1))[:0], nil, api.OK)
	}
}

// refused is a change of which a node can make nothing.
type refused struct {
	name string
	node api.Node
	row  api.Row
	diff int
	want api.Errno
}

func nodeFaults() []refused {
	var l []refused
	for _, kind := range otherKinds() {
		l = append(l, refused{"no such kind", api.Node{Kind: kind}, r(5), 1, api.ErrKind},
			refused{"no such kind, else good", api.Node{Kind: kind, Exprs: [][]api.Term{number(1)}, Cols: []int{0}, Key: 1, N: 0, Size: 1, Slide: 1}, r(5), 1, api.ErrKind})
	}
	for _, exprs := range [][][]api.Term{nil, {}, many(2, number(1)), many(2, number(0)), many(3, col(0)), many(65, number(1))} {
		for _, x := range allSorts() {
			l = append(l, refused{"a filter of not just one", filter(exprs...), x, 1, api.ErrArg})
		}
	}
	return l
}

// exprFaults are those that expr.Eval tells, of a map as of a filter.
func exprFaults() []refused {
	var l []refused
	deep := slices.Concat(many(17, api.Term{Op: api.OpInt}), many(16, api.Term{Op: api.OpAdd}))
	for _, kind := range []int{api.NodeMap, api.NodeFilter} {
		one := func(name string, steps []api.Term, x api.Row, want api.Errno) {
			l = append(l, refused{name, api.Node{Kind: kind, Exprs: [][]api.Term{steps}}, x, 1, want})
		}
		one("no step", nil, r(1), api.ErrArg)
		one("too many steps", append(number(1), many(64, api.Term{Op: api.OpNeg})...), r(1), api.ErrMany)
		one("too many on the stack", deep, r(1), api.ErrMany)
		one("no such step", []api.Term{{Op: api.Ops}}, r(1), api.ErrKind)
		one("a step below 0", []api.Term{{Op: -1}}, r(1), api.ErrKind)
		one("a column that is none", col(2), r(1, 2), api.ErrRange)
		one("a column below 0", col(-1), r(1, 2), api.ErrRange)
		one("a column of a row of no value", col(0), nil, api.ErrRange)
		one("a text that is too long", word(long()+"x"), r(1), api.ErrLong)
		one("steps that leave two", slices.Concat(col(0), col(0)), r(1), api.ErrForm)
		one("steps that find none", of(api.OpNeg), r(1), api.ErrForm)
		one("a text as a number", of(api.OpNot, col(0)), v(s("a")), api.ErrType)
		one("a number as a text", of(api.OpLen, col(0)), r(1), api.ErrType)
		one("a value of another kind as a number", of(api.OpNeg, col(0)), v(odd(3)), api.ErrType)
		one("a sum that is too great", of(api.OpAdd, col(0), number(1)), r(high), api.ErrOver)
		one("a negative that is too great", of(api.OpNeg, col(0)), r(low), api.ErrOver)
		one("a text that gets too long", of(api.OpCat, col(0), word("y")), v(s(long())), api.ErrLong)
	}
	return l
}

func rowFaults() []refused {
	return append(exprFaults(), []refused{
		{"project of a column that is none", project(2), r(1, 2), 1, api.ErrRange},
		{"project of a column that is none, behind others", project(0, 1, 2), r(1, 2), 1, api.ErrRange},
		{"project of a column that is none, ahead of others", project(2, 0), r(1, 2), 1, api.ErrRange},
		{"project of a column below 0", project(-1), r(1, 2), 1, api.ErrRange},
		{"project of the least column", project(low), r(1, 2), 1, api.ErrRange},
		{"project of the greatest column", project(high), r(1, 2), 1, api.ErrRange},
		{"project of a row of no value", project(0), nil, 1, api.ErrRange},
		{"negate of the least", negate(), r(1, 2), low, api.ErrOver},
		{"negate of the least, of no value", negate(), nil, low, api.ErrOver},
		{"bucket of a column that is none", bucket(2, 1, 1), r(1, 2), 1, api.ErrRange},
		{"bucket of a column below 0", bucket(-1, 1, 1), r(1, 2), 1, api.ErrRange},
		{"bucket of a row of no value", bucket(0, 1, 1), nil, 1, api.ErrRange},
		{"bucket of a long row", bucket(0, 1, 1), r(many(16, 1)...), 1, api.ErrMany},
		{"bucket of a longer row", bucket(0, 1, 1), r(many(17, 1)...), 1, api.ErrMany},
		{"bucket of a text", bucket(0, 1, 1), v(s("a")), 1, api.ErrType},
		{"bucket of a value of another kind", bucket(0, 1, 1), v(odd(9)), 1, api.ErrType},
		{"bucket of no size", bucket(0, 0, 1), r(1), 1, api.ErrArg},
		{"bucket of no slide", bucket(0, 1, 0), r(1), 1, api.ErrArg},
		{"bucket of too great a size", bucket(0, 1<<40+1, 1<<40), r(1), 1, api.ErrArg},
		{"bucket of too great a slide", bucket(0, 1, 1<<40+1), r(1), 1, api.ErrArg},
		{"bucket of too many windows", bucket(0, 65, 1), r(1), 1, api.ErrMany},
		{"bucket of a number that is too great", bucket(0, 1, 1), r(1<<60 + 1), 1, api.ErrOver},
		{"bucket of a number that is too little", bucket(0, 1, 1), r(-1<<60 - 1), 1, api.ErrOver},
	}...)
}

// orderFaults have two faults: the one that the chapters name first is told.
func orderFaults() []refused {
	neg := of(api.OpNeg, col(0))
	kindless := func(k api.Node) api.Node { k.Kind = api.NodeJoin; return k }
	return []refused{
		{"a kind, ahead of Exprs", kindless(filter()), r(1), 1, api.ErrKind},
		{"a kind, ahead of a row", kindless(filter(col(7))), r(1), 1, api.ErrKind},
		{"a kind, ahead of a column", kindless(project(7)), r(1), 1, api.ErrKind},
		{"a kind, ahead of a Diff", kindless(negate()), r(1), low, api.ErrKind},
		{"a kind, ahead of windows", kindless(bucket(7, 0, 0)), r(1), 1, api.ErrKind},
		{"a filter's two Exprs, ahead of a row", filter(col(7), col(7)), r(1), 1, api.ErrArg},
		{"a filter's no Exprs, ahead of a row", filter(), nil, 1, api.ErrArg},
		{"a filter's two Exprs, ahead of the first one's steps", filter(of(api.OpNeg), number(1)), r(1), 1, api.ErrArg},
		{"a column, then a text", mapped(col(7), neg), v(s("a")), 1, api.ErrRange},
		{"a text, then a column", mapped(neg, col(7)), v(s("a")), 1, api.ErrType},
		{"a number that is too great, then a column", mapped(neg, col(7)), r(low), 1, api.ErrOver},
		{"a good one, then two bad ones", mapped(number(1), word(long()+"x"), nil), r(1), 1, api.ErrLong},
		{"two bad ones, then a good one", mapped(nil, word(long()+"x"), number(1)), r(1), 1, api.ErrArg},
		{"steps that may not be, ahead of numbers", mapped(append(neg, api.Term{Op: api.OpLen})), r(low), 1, api.ErrType},
		{"bucket: a column, ahead of a long row", bucket(16, 1, 1), r(many(16, 1)...), 1, api.ErrRange},
		{"bucket: a long row, ahead of a text", bucket(15, 1, 1), append(r(many(15, 1)...), s("a")), 1, api.ErrMany},
		{"bucket: a text, ahead of the size", bucket(0, 0, 1), v(s("a")), 1, api.ErrType},
		{"bucket: a column, ahead of the size", bucket(1, 0, 1), r(1), 1, api.ErrRange},
		{"bucket: the size, ahead of the number", bucket(0, 0, 1), r(high), 1, api.ErrArg},
		{"bucket: too many windows, ahead of the number", bucket(0, 65, 1), r(high), 1, api.ErrMany},
	}
}

func allFaults() []refused { return slices.Concat(nodeFaults(), rowFaults(), orderFaults()) }

// change is the change that is refused.
func (k refused) change(when api.Time) api.Up {
	return api.Up{Row: k.row, Time: when, Diff: k.diff}
}

func TestRefused(t *testing.T) { // P20.1: wrong inputs; of two faults the first; beside an error nothing is told
	for _, k := range allFaults() {
		for _, when := range times() {
			u := k.change(when)
			holdDo(t, k.name, k.node, u, nil, k.want)
			holdAll(t, k.name, k.node, ups(u), nil, k.want)
			holdAll(t, k.name+", several times", k.node, ups(u, u, u), nil, k.want)
			if u.Diff != low {
				// A Diff of 0 takes part as any other: its row is asked, too.
				u.Diff = 0
				holdDo(t, k.name+", with 0", k.node, u, nil, k.want)
			}
		}
	}
}

func TestFirstOfSeveral(t *testing.T) { // P20.1: of All the first change that has a fault, also where others go well
	neg := mapped(of(api.OpNeg, col(0)))
	good, over, kind, short := up(r(5), 1, 0, 1), up(r(low), 1, 0, 1), up(v(s("a")), 0, 0, 1), up(nil, 2, 0, 1)
	for _, k := range []struct {
		name string
		node api.Node
		l    []api.Up
		want api.Errno
	}{
		{"the first", neg, ups(over, good, good), api.ErrOver},
		{"the last", neg, ups(good, good, kind), api.ErrType},
		{"one between", neg, ups(good, short, good), api.ErrRange},
		{"three, in one order", neg, ups(good, over, kind, short), api.ErrOver},
		{"three, in another order", neg, ups(good, kind, short, over), api.ErrType},
		{"three, in a third order", neg, ups(short, good, kind, over), api.ErrRange},
		{"filter", filter(of(api.OpNeg, col(0))), ups(up(r(0), 0, 0, 1), kind, over), api.ErrType},
		{"filter behind one that is taken out", filter(of(api.OpNeg, col(0))), ups(up(r(0), 0, 0, 1), over), api.ErrOver},
		{"project", project(0), ups(good, kind, short), api.ErrRange},
		{"negate", negate(), ups(good, kind, short, up(r(5), 0, 0, low), good), api.ErrOver},
		{"bucket", bucket(0, 4, 2), ups(good, kind, over, short), api.ErrType},
		{"bucket behind one without windows", bucket(0, 1, 2), ups(good, over, kind), api.ErrOver},
		{"a kind", api.Node{Kind: api.NodeCount}, ups(good, over), api.ErrKind},
		{"two Exprs", filter(col(0), col(0)), ups(short, good), api.ErrArg},
	} {
		holdAll(t, k.name, k.node, k.l, nil, k.want)
	}
}

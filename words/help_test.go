package words_test

import (
	"fmt"
	"math"
	"reflect"
	"slices"
	"testing"

	"runnel/api"
	"runnel/plan"
	"runnel/words"
)

const (
	low      = math.MinInt
	high     = math.MaxInt
	maxBytes = 1048576
	num      = api.KindInt
	text     = api.KindStr
)

// many is so many of one thing.
func many[T any](count int, x T) []T { return slices.Repeat([]T{x}, count) }

func input(kinds ...int) api.Node { return api.Node{Kind: api.NodeInput, Kinds: kinds} }
func mapped(in int, exprs ...[]api.Term) api.Node {
	return api.Node{Kind: api.NodeMap, Ins: []int{in}, Exprs: exprs}
}
func filter(in int, exprs ...[]api.Term) api.Node {
	return api.Node{Kind: api.NodeFilter, Ins: []int{in}, Exprs: exprs}
}
func project(in int, cols ...int) api.Node {
	return api.Node{Kind: api.NodeProject, Ins: []int{in}, Cols: cols}
}
func concat(ins ...int) api.Node  { return api.Node{Kind: api.NodeConcat, Ins: ins} }
func negate(in int) api.Node      { return api.Node{Kind: api.NodeNegate, Ins: []int{in}} }
func consolidate(in int) api.Node { return api.Node{Kind: api.NodeConsolidate, Ins: []int{in}} }
func distinct(in int) api.Node    { return api.Node{Kind: api.NodeDistinct, Ins: []int{in}} }
func bucket(in, col, size, slide int) api.Node {
	return api.Node{Kind: api.NodeBucket, Ins: []int{in}, N: col, Size: size, Slide: slide}
}

// keyed is a node of a kind that has a key, and a number where it has one.
func keyed(kind, in, key, n int) api.Node {
	return api.Node{Kind: kind, Ins: []int{in}, Key: key, N: n}
}
func joins(a, b, key int) api.Node {
	return api.Node{Kind: api.NodeJoin, Ins: []int{a, b}, Key: key}
}

func col(i int) api.Term          { return api.Term{Op: api.OpCol, Int: i} }
func number(x int) api.Term       { return api.Term{Op: api.OpInt, Int: x} }
func quoted(s string) api.Term    { return api.Term{Op: api.OpStr, Str: s} }
func op(step int) api.Term        { return api.Term{Op: step} }
func of(l ...api.Term) []api.Term { return l }

// planOf is a plan of room 5 whose last node is its out.
func planOf(nodes ...api.Node) api.Plan {
	return api.Plan{Nodes: nodes, Outs: []int{len(nodes) - 1}, Room: 5}
}

func outsAre(p api.Plan, outs ...int) api.Plan {
	p.Outs = outs
	return p
}

func roomIs(p api.Plan, room int) api.Plan {
	p.Room = room
	return p
}

// everyKind is a plan that may be, with a node of each kind, in an order in which some stand ahead of their Ins.
func everyKind() api.Plan {
	p := planOf(joins(9, 3, 1), input(num, text), input(num, num), bucket(4, 1, 10, 5), filter(5, of(col(1), number(-5), op(api.OpLess), op(api.OpNot))),
		mapped(2, of(col(0), number(2), op(api.OpMul)), of(col(1))), concat(2, 4, 5), negate(6), consolidate(7), keyed(api.NodeArrange, 8, 1, 0),
		project(1, 1, 0, 0), distinct(10), keyed(api.NodeCount, 11, 2, 0), keyed(api.NodeSum, 11, 1, 2), keyed(api.NodeMin, 13, 1, 0), keyed(api.NodeMax, 14, 0, 0), keyed(api.NodeTop, 15, 1, 1000),
		mapped(16, of(quoted("a b%\n'~\x7f\xff"), col(0), op(api.OpCat))))
	return roomIs(outsAre(p, 17, 0, 12, 12), 65536)
}

// everyKindText is everyKind's text, written by hand.
const everyKindText = `room 65536
join 9 3 1
input int str
input int int
bucket 4 1 10 5
filter 5 [ c1 -5 less not ]
map 2 [ c0 2 mul ] [ c1 ]
concat 2 4 5
negate 6
consolidate 7
arrange 8 1
project 1 1 0 0
distinct 10
count 11 2
sum 11 1 2
min 13 1
max 14 0
top 15 1 1000
map 16 [ 'a%20b%25%0a'~%7f%ff c0 cat ]
out 17
out 0
out 12
out 12
`

// clone is a plan with the same things in lists of its own.
func clone(p api.Plan) api.Plan {
	p.Nodes, p.Outs = slices.Clone(p.Nodes), slices.Clone(p.Outs)
	for i := range p.Nodes {
		n := &p.Nodes[i]
		n.Ins, n.Kinds, n.Cols, n.Exprs = slices.Clone(n.Ins), slices.Clone(n.Kinds), slices.Clone(n.Cols), slices.Clone(n.Exprs)
		for j := range n.Exprs {
			n.Exprs[j] = slices.Clone(n.Exprs[j])
		}
	}
	return p
}

// withoutEmpty is the plan with nil for each list that is empty.
func withoutEmpty(p api.Plan) api.Plan {
	p = clone(p)
	p.Nodes, p.Outs = nilIfEmpty(p.Nodes), nilIfEmpty(p.Outs)
	for i := range p.Nodes {
		n := &p.Nodes[i]
		n.Ins, n.Kinds, n.Cols, n.Exprs = nilIfEmpty(n.Ins), nilIfEmpty(n.Kinds), nilIfEmpty(n.Cols), nilIfEmpty(n.Exprs)
		for j := range n.Exprs {
			n.Exprs[j] = nilIfEmpty(n.Exprs[j])
		}
	}
	return p
}

func nilIfEmpty[T any](l []T) []T {
	if len(l) == 0 {
		return nil
	}
	return l
}

// alike: every field, told or not; nil and empty lists are one.
func alike(p, q api.Plan) bool { return reflect.DeepEqual(withoutEmpty(p), withoutEmpty(q)) }

// brief is a thing as a text that is not too long to be read.
func brief(x any) string {
	s := fmt.Sprintf("%+v", x)
	if b, ok := x.([]byte); ok {
		s = fmt.Sprintf("%q", b)
	}
	if len(s) > 800 {
		s = s[:600] + " .. " + s[len(s)-150:]
	}
	return s
}

// holdText holds a text against the plan that it tells; fields that are not told are zero in it.
func holdText(t *testing.T, name, s string, want api.Plan) {
	t.Helper()
	p, e, at := words.Parse([]byte(s))
	if e != api.OK || at != len(s) || !alike(p, want) {
		t.Fatalf("%s: Parse(%s) = %s, %d at %d, want %s", name, brief([]byte(s)), brief(p), int(e), at, brief(want))
	}
}

// holdBoth holds a plan that may be against its text, both ways.
func holdBoth(t *testing.T, name string, p api.Plan, want string) {
	t.Helper()
	if e, at := plan.Check(p); e != api.OK {
		t.Fatalf("%s: the plan may not be: %d at %d", name, int(e), at)
	}
	if b, e := words.Print(p); e != api.OK || string(b) != want {
		t.Fatalf("%s: Print = %s, %d, want %s", name, brief(b), int(e), brief([]byte(want)))
	}
	holdText(t, name, want, p)
}

// holdLine holds a line behind the room against the node that it tells. Whether that may be is not asked.
func holdLine(t *testing.T, line string, want api.Node) {
	t.Helper()
	holdText(t, "a line", "room 1\n"+line+"\n", api.Plan{Room: 1, Nodes: []api.Node{want}})
}

// holdFault holds a text that is none against the place of its fault.
func holdFault(t *testing.T, name, s string, want int) {
	t.Helper()
	p, e, at := words.Parse([]byte(s))
	if e != api.ErrForm || at != want || !reflect.DeepEqual(p, api.Plan{}) {
		t.Fatalf("%s: Parse(%s) = %s, %d at %d, want nothing, ErrForm at %d", name, brief([]byte(s)), brief(p), int(e), at, want)
	}
}

// holdPlace holds a text that is none, in which a "@" stands ahead of its fault.
func holdPlace(t *testing.T, name, s string) {
	t.Helper()
	at := slices.Index([]byte(s), '@')
	if at < 0 {
		t.Fatalf("%s: no place in %q", name, s)
	}
	holdFault(t, name, s[:at]+s[at+1:], at)
}

// holdRefused holds a plan that is not printed against its error.
func holdRefused(t *testing.T, name string, p api.Plan, want api.Errno) {
	t.Helper()
	if b, e := words.Print(p); e != want || len(b) > 0 {
		t.Fatalf("%s: Print = %s, %d, want nothing, %d", name, brief(b), int(e), int(want))
	}
}

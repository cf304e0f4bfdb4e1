package engine_test

import (
	"fmt"
	"math"
	"slices"
	"strings"

	"runnel/api"
	"runnel/row"
	"runnel/sheet"
)

const (
	low  = math.MinInt
	high = math.MaxInt
	num  = api.KindInt
	text = api.KindStr
)

func n(x int) api.Val    { return api.Val{Kind: num, Int: x} }
func s(x string) api.Val { return api.Val{Kind: text, Str: x} }

// r is a row of numbers, texts and values.
func r(values ...any) api.Row {
	var l api.Row
	for _, v := range values {
		switch x := v.(type) {
		case int:
			l = append(l, n(x))
		case string:
			l = append(l, s(x))
		case api.Val:
			l = append(l, x)
		}
	}
	return l
}

func pair(epoch, round int) api.Time { return api.Time{Epoch: epoch, Round: round} }

func times(l ...api.Time) []api.Time { return l }

func up(r api.Row, epoch, round, diff int) api.Up {
	return api.Up{Row: r, Time: pair(epoch, round), Diff: diff}
}

func ups(l ...api.Up) []api.Up { return l }

func count(diff int, r api.Row) api.Count { return api.Count{Row: r, Diff: diff} }

func same(u, v api.Up) bool {
	return row.Same(u.Row, v.Row) && u.Time == v.Time && u.Diff == v.Diff
}

func sameCount(a, b api.Count) bool { return row.Same(a.Row, b.Row) && a.Diff == b.Diff }

// sameReply: field by field, nil and empty lists alike.
func sameReply(a, b api.Reply) bool {
	return a.Left == b.Left && slices.EqualFunc(a.Counts, b.Counts, sameCount) && slices.EqualFunc(a.Ups, b.Ups, same) && slices.Equal(a.Front, b.Front)
}

// copied is a change in memory of its own, copiedCmd a command.
func copied(u api.Up) api.Up {
	u.Row = slices.Clone(u.Row)
	return u
}

func copiedCmd(c api.Cmd) api.Cmd {
	c.Up, c.Front, c.Sheet = copied(c.Up), slices.Clone(c.Front), slices.Clone(c.Sheet)
	return c
}

// copiedPlan is the plan in lists of its own.
func copiedPlan(p api.Plan) api.Plan {
	p.Outs, p.Nodes = slices.Clone(p.Outs), slices.Clone(p.Nodes)
	for i := range p.Nodes {
		n := &p.Nodes[i]
		n.Ins, n.Kinds, n.Cols, n.Exprs = slices.Clone(n.Ins), slices.Clone(n.Kinds), slices.Clone(n.Cols), slices.Clone(n.Exprs)
		for j := range n.Exprs {
			n.Exprs[j] = slices.Clone(n.Exprs[j])
		}
	}
	return p
}

// told is x as a text that is not too long to be read.
func told(x any) string {
	text := strings.ToValidUTF8(fmt.Sprintf("%+v", x), "?")
	if len(text) > 500 {
		text = text[:500] + " .."
	}
	return text
}

// advanced: is one of f not above t in either way?
func advanced(f []api.Time, t api.Time) bool {
	return slices.ContainsFunc(f, func(u api.Time) bool { return u.Epoch <= t.Epoch && u.Round <= t.Round })
}

// grid are all times with numbers below a bound.
func grid(bound int) []api.Time {
	var l []api.Time
	for epoch := range bound {
		for round := range bound {
			l = append(l, pair(epoch, round))
		}
	}
	return l
}

// stairs are so many times of which none is LessEq to another one, from a time on.
func stairs(from api.Time, count int) []api.Time {
	var l []api.Time
	for i := range count {
		l = append(l, pair(from.Epoch+i, from.Round+count-1-i))
	}
	return l
}

// noNumbers are numbers that none of so many has.
func noNumbers(many int) []int {
	return []int{low, low + 1, -1 << 32, -2, -1, many, many + 1, 1 << 32, 1<<32 - 1, high - 1, high}
}

func input(kinds ...int) api.Node { return api.Node{Kind: api.NodeInput, Kinds: kinds} }
func mapped(in int, exprs ...[]api.Term) api.Node {
	return api.Node{Kind: api.NodeMap, Ins: []int{in}, Exprs: exprs}
}
func filter(in int, expr []api.Term) api.Node {
	return api.Node{Kind: api.NodeFilter, Ins: []int{in}, Exprs: [][]api.Term{expr}}
}
func project(in int, cols ...int) api.Node {
	return api.Node{Kind: api.NodeProject, Ins: []int{in}, Cols: cols}
}
func concat(ins ...int) api.Node  { return api.Node{Kind: api.NodeConcat, Ins: ins} }
func negate(in int) api.Node      { return api.Node{Kind: api.NodeNegate, Ins: []int{in}} }
func consolidate(in int) api.Node { return api.Node{Kind: api.NodeConsolidate, Ins: []int{in}} }
func bucket(in, col, size, slide int) api.Node {
	return api.Node{Kind: api.NodeBucket, Ins: []int{in}, N: col, Size: size, Slide: slide}
}
func arrange(in, key int) api.Node {
	return api.Node{Kind: api.NodeArrange, Ins: []int{in}, Key: key}
}
func folds(kind, in, key, n int) api.Node {
	return api.Node{Kind: kind, Ins: []int{in}, Key: key, N: n}
}
func counts(in, key int) api.Node { return folds(api.NodeCount, in, key, 0) }
func joins(a, b, key int) api.Node {
	return api.Node{Kind: api.NodeJoin, Ins: []int{a, b}, Key: key}
}

func col(i int) []api.Term    { return []api.Term{{Op: api.OpCol, Int: i}} }
func number(x int) []api.Term { return []api.Term{{Op: api.OpInt, Int: x}} }

// of is a step behind others.
func of(op int, l ...[]api.Term) []api.Term {
	return append(slices.Concat(l...), api.Term{Op: op})
}

// planOf is a plan whose last node is its out.
func planOf(room int, nodes ...api.Node) api.Plan {
	return api.Plan{Nodes: nodes, Outs: []int{len(nodes) - 1}, Room: room}
}

// outsAre is a plan with other outs.
func outsAre(p api.Plan, outs ...int) api.Plan {
	p.Outs = outs
	return p
}

// bytesOf is a plan's sheet; whether the plan may be is not asked.
func bytesOf(p api.Plan) []byte {
	b, e := sheet.Encode(p)
	if e != api.OK {
		panic("a plan that cannot be told")
	}
	return b
}

// The commands.
func install(p api.Plan) api.Cmd { return api.Cmd{Do: api.CmdInstall, Sheet: bytesOf(p)} }
func insert(at int, u api.Up) api.Cmd {
	return api.Cmd{Do: api.CmdInsert, Node: at, Up: u}
}
func advance(at int, l ...api.Time) api.Cmd {
	return api.Cmd{Do: api.CmdAdvance, Node: at, Front: l}
}
func step(at, fuel int) api.Cmd { return api.Cmd{Do: api.CmdStep, Node: at, Fuel: fuel} }
func compact(at int, l ...api.Time) api.Cmd {
	return api.Cmd{Do: api.CmdCompact, Node: at, Front: l}
}
func peek(at int, t api.Time) api.Cmd {
	return api.Cmd{Do: api.CmdPeek, Node: at, Up: api.Up{Time: t}}
}
func poll(i int) api.Cmd { return api.Cmd{Do: api.CmdPoll, Node: i} }

// names are the commands', as the page has them.
var names = []string{"install", "insert", "advance", "step", "compact", "peek", "poll"}

// nameOf is a command's, "?" of what is none.
func nameOf(do int) string {
	if do < 0 || do >= len(names) {
		return "?"
	}
	return names[do]
}

// everyKind is a plan in which each kind of node is, and leads to an out.
func everyKind() api.Plan {
	p := planOf(4, input(num, text), input(num, num),
		mapped(1, of(api.OpAdd, col(0), number(0)), col(1)), filter(2, of(api.OpLess, col(1), number(5))), project(3, 0, 1), concat(4, 1), negate(5), consolidate(6),
		bucket(7, 1, 4, 2), arrange(8, 1), joins(0, 9, 1),
		folds(api.NodeDistinct, 9, 0, 0), folds(api.NodeCount, 10, 1, 0), folds(api.NodeSum, 11, 1, 1), folds(api.NodeMin, 11, 1, 0), folds(api.NodeMax, 11, 1, 0), folds(api.NodeTop, 11, 1, 2))
	p.Outs = []int{12, 13, 14, 15, 16, 10, 7, 0}
	return p
}

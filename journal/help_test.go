package journal_test

import (
	"fmt"
	"math"
	"slices"
	"strings"

	"runnel/api"
	"runnel/sheet"
)

const (
	low  = math.MinInt
	high = math.MaxInt
	num  = api.KindInt
	text = api.KindStr
)

// r is a row of numbers, texts and values.
func r(values ...any) api.Row {
	var l api.Row
	for _, v := range values {
		switch x := v.(type) {
		case int:
			l = append(l, api.Val{Kind: num, Int: x})
		case string:
			l = append(l, api.Val{Kind: text, Str: x})
		case api.Val:
			l = append(l, x)
		}
	}
	return l
}

func pair(epoch, round int) api.Time { return api.Time{Epoch: epoch, Round: round} }

func times(l ...api.Time) []api.Time { return l }

func up(r api.Row, epoch, round, diff int) api.Up {
	return api.Up{Row: r, Time: pair(epoch, round), Diff: diff}
}

// many is so many of one thing.
func many[T any](count int, x T) []T { return slices.Repeat([]T{x}, count) }

// sameVal: what tells of a value, and no more.
func sameVal(a, b api.Val) bool {
	return a.Kind == b.Kind && (a.Kind != num || a.Int == b.Int) && (a.Kind != text || a.Str == b.Str)
}

func sameRow(a, b api.Row) bool { return slices.EqualFunc(a, b, sameVal) }

// sameCmd: all fields, those that a command does not use among them: they are zero.
func sameCmd(a, b api.Cmd) bool {
	return a.Do == b.Do && a.Node == b.Node && a.Up.Time == b.Up.Time && a.Up.Diff == b.Up.Diff && sameRow(a.Up.Row, b.Up.Row) && slices.Equal(a.Front, b.Front) && a.Fuel == b.Fuel && slices.Equal(a.Sheet, b.Sheet)
}

func sameCmds(a, b []api.Cmd) bool { return slices.EqualFunc(a, b, sameCmd) }

func sameCounts(a, b []api.Count) bool {
	return slices.EqualFunc(a, b, func(x, y api.Count) bool { return x.Diff == y.Diff && sameRow(x.Row, y.Row) })
}

// difference is the first command in which two lists tell something else; "" is nothing.
func difference(got, want []api.Cmd) string {
	for i := range min(len(got), len(want)) {
		if !sameCmd(got[i], want[i]) {
			return fmt.Sprintf("command %d is %s, want %s", i, brief(got[i]), brief(want[i]))
		}
	}
	if len(got) != len(want) {
		both := min(len(got), len(want))
		return fmt.Sprintf("%d commands, want %d; behind the first %d: %s, want %s", len(got), len(want), both, brief(got[both:]), brief(want[both:]))
	}
	return ""
}

// brief is a thing as a text that is not too long to be read.
func brief(x any) string {
	if l, is := x.([]api.Cmd); is && len(l) > 8 {
		x = l[:8]
	}
	text := strings.ToValidUTF8(fmt.Sprintf("%+v", x), "?")
	if len(text) > 900 {
		text = text[:900] + " .."
	}
	return text
}

// copiedCmd is a command in memory of its own.
func copiedCmd(c api.Cmd) api.Cmd {
	c.Up.Row, c.Front, c.Sheet = slices.Clone(c.Up.Row), slices.Clone(c.Front), slices.Clone(c.Sheet)
	return c
}

func copiedCmds(l []api.Cmd) []api.Cmd {
	var own []api.Cmd
	for _, c := range l {
		own = append(own, copiedCmd(c))
	}
	return own
}

func isLessEq(a, b api.Time) bool { return a.Epoch <= b.Epoch && a.Round <= b.Round }

// advanced: is one of f not above t in either way?
func advanced(f []api.Time, t api.Time) bool {
	return slices.ContainsFunc(f, func(u api.Time) bool { return isLessEq(u, t) })
}

// allows: is each time of g in advance of f?
func allows(f, g []api.Time) bool {
	return !slices.ContainsFunc(g, func(t api.Time) bool { return !advanced(f, t) })
}

// least are the times to which no other one is LessEq, each once, in order.
func least(l []api.Time) []api.Time {
	var kept []api.Time
	for _, t := range l {
		beats := func(u api.Time) bool { return u != t && isLessEq(u, t) }
		if !slices.ContainsFunc(l, beats) && !slices.Contains(kept, t) {
			kept = append(kept, t)
		}
	}
	slices.SortFunc(kept, func(a, b api.Time) int { return a.Epoch - b.Epoch })
	return kept
}

// grid are all times with numbers below a bound.
func grid(bound int) []api.Time {
	var l []api.Time
	for epoch := range bound {
		for round := range bound {
			l = append(l, pair(epoch, round))
		}
	}
	return l
}

// stairs are so many times of which none is LessEq to another one.
func stairs(count int) []api.Time {
	var l []api.Time
	for i := range count {
		l = append(l, pair(i, count-1-i))
	}
	return l
}

// noNumbers are numbers that none of so many has.
func noNumbers(many int) []int {
	return []int{low, low + 1, -1 << 32, -2, -1, many, many + 1, 256, 1 << 32, 1<<32 - 1, high - 1, high}
}

func input(kinds ...int) api.Node { return api.Node{Kind: api.NodeInput, Kinds: kinds} }
func concat(ins ...int) api.Node  { return api.Node{Kind: api.NodeConcat, Ins: ins} }
func negate(in int) api.Node      { return api.Node{Kind: api.NodeNegate, Ins: []int{in}} }
func mapped(in int, exprs ...[]api.Term) api.Node {
	return api.Node{Kind: api.NodeMap, Ins: []int{in}, Exprs: exprs}
}
func arrange(in, key int) api.Node {
	return api.Node{Kind: api.NodeArrange, Ins: []int{in}, Key: key}
}
func joins(a, b, key int) api.Node {
	return api.Node{Kind: api.NodeJoin, Ins: []int{a, b}, Key: key}
}

func col(i int) []api.Term    { return []api.Term{{Op: api.OpCol, Int: i}} }
func number(x int) []api.Term { return []api.Term{{Op: api.OpInt, Int: x}} }

// of is a step behind others.
func of(op int, l ...[]api.Term) []api.Term {
	return append(slices.Concat(l...), api.Term{Op: op})
}

// planOf is a plan whose last node is its out.
func planOf(room int, nodes ...api.Node) api.Plan {
	return api.Plan{Nodes: nodes, Outs: []int{len(nodes) - 1}, Room: room}
}

// outsAre is a plan with other outs.
func outsAre(p api.Plan, outs ...int) api.Plan {
	p.Outs = outs
	return p
}

// bytesOf is a plan's sheet; whether the plan may be is not asked.
func bytesOf(p api.Plan) []byte {
	b, e := sheet.Encode(p)
	if e != api.OK {
		panic("a plan that cannot be told")
	}
	return b
}

// The commands.
func install(p api.Plan) api.Cmd { return api.Cmd{Do: api.CmdInstall, Sheet: bytesOf(p)} }
func insert(at int, u api.Up) api.Cmd {
	return api.Cmd{Do: api.CmdInsert, Node: at, Up: u}
}
func advance(at int, l ...api.Time) api.Cmd {
	return api.Cmd{Do: api.CmdAdvance, Node: at, Front: l}
}
func step(at, fuel int) api.Cmd { return api.Cmd{Do: api.CmdStep, Node: at, Fuel: fuel} }
func compact(at int, l ...api.Time) api.Cmd {
	return api.Cmd{Do: api.CmdCompact, Node: at, Front: l}
}
func peek(at int, t api.Time) api.Cmd {
	return api.Cmd{Do: api.CmdPeek, Node: at, Up: api.Up{Time: t}}
}
func poll(i int) api.Cmd { return api.Cmd{Do: api.CmdPoll, Node: i} }

func cmds(l ...api.Cmd) []api.Cmd { return l }

// and is a session with more commands behind it.
func and(l []api.Cmd, more ...api.Cmd) []api.Cmd { return slices.Concat(l, more) }

// wide is a plan of several inputs whose numbers are not the first ones, with inputs behind what they lead to, one that leads nowhere, an out that is an input, twice, and several arrangements.
//
// The inputs are 1, 4, 6 and 7, the arrangements 2, 5 and 8.
func wide() api.Plan {
	return outsAre(planOf(3,
		negate(4), input(num, text), arrange(0, 1), joins(5, 2, 1), input(num, num), arrange(1, 1), input(), input(num, num), arrange(7, 0), concat(7, 0)),
		3, 7, 9, 7)
}

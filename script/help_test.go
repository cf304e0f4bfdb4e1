package script_test

import (
	"fmt"
	"math"
	"slices"
	"strings"

	"runnel/api"
	"runnel/sheet"
)

const (
	low  = math.MinInt
	high = math.MaxInt
	num  = api.KindInt
	text = api.KindStr
)

// r is a row of numbers, texts and values.
func r(values ...any) api.Row {
	var l api.Row
	for _, v := range values {
		switch x := v.(type) {
		case int:
			l = append(l, api.Val{Kind: num, Int: x})
		case string:
			l = append(l, api.Val{Kind: text, Str: x})
		case api.Val:
			l = append(l, x)
		}
	}
	return l
}

func pair(epoch, round int) api.Time { return api.Time{Epoch: epoch, Round: round} }

func times(l ...api.Time) []api.Time { return l }

// fronts are frontiers, out by out.
func fronts(l ...[]api.Time) [][]api.Time { return l }

func up(r api.Row, epoch, round, diff int) api.Up {
	return api.Up{Row: r, Time: pair(epoch, round), Diff: diff}
}

func count(diff int, r api.Row) api.Count { return api.Count{Row: r, Diff: diff} }

// came is a note of a change, upTo one of a frontier.
func came(out int, row api.Row, epoch, round, diff int) api.Note {
	return api.Note{Out: out, IsUp: true, Up: up(row, epoch, round, diff)}
}
func upTo(out int, l ...api.Time) api.Note { return api.Note{Out: out, Front: l} }

func notes(l ...api.Note) []api.Note { return l }

func codes(l ...api.Errno) []api.Errno { return l }

// many is so many of one thing.
func many[T any](count int, x T) []T { return slices.Repeat([]T{x}, count) }

// sameVal: what tells of a value, and no more.
func sameVal(a, b api.Val) bool {
	return a.Kind == b.Kind && (a.Kind != num || a.Int == b.Int) && (a.Kind != text || a.Str == b.Str)
}

func sameRow(a, b api.Row) bool { return slices.EqualFunc(a, b, sameVal) }

// sameNote: all fields, those that play no part among them: they are zero.
func sameNote(a, b api.Note) bool {
	return a.Out == b.Out && a.IsUp == b.IsUp && a.Up.Time == b.Up.Time && a.Up.Diff == b.Up.Diff && sameRow(a.Up.Row, b.Up.Row) && slices.Equal(a.Front, b.Front)
}

func sameNotes(a, b []api.Note) bool { return slices.EqualFunc(a, b, sameNote) }

func sameCounts(a, b []api.Count) bool {
	return slices.EqualFunc(a, b, func(x, y api.Count) bool { return x.Diff == y.Diff && sameRow(x.Row, y.Row) })
}

func samePeeks(a, b [][]api.Count) bool { return slices.EqualFunc(a, b, sameCounts) }

func sameFronts(a, b [][]api.Time) bool { return slices.EqualFunc(a, b, slices.Equal[[]api.Time]) }

func sameTold(a, b api.Told) bool {
	return sameNotes(a.Notes, b.Notes) && slices.Equal(a.Codes, b.Codes) && samePeeks(a.Peeks, b.Peeks)
}

// difference is in what two tell something else; "" is nothing.
func difference(got, want api.Told) string {
	if bad := firstOther("code", got.Codes, want.Codes, func(a, b api.Errno) bool { return a == b }); bad != "" {
		return bad
	}
	if bad := firstOther("peek", got.Peeks, want.Peeks, sameCounts); bad != "" {
		return bad
	}
	return firstOther("note", got.Notes, want.Notes, sameNote)
}

func firstOther[T any](name string, got, want []T, same func(a, b T) bool) string {
	for i := range min(len(got), len(want)) {
		if !same(got[i], want[i]) {
			return fmt.Sprintf("%s %d is %s, want %s", name, i, brief(got[i]), brief(want[i]))
		}
	}
	if len(got) != len(want) {
		both := min(len(got), len(want))
		return fmt.Sprintf("%d of %s, want %d; behind the first %d: %s, want %s", len(got), name, len(want), both, brief(got[both:]), brief(want[both:]))
	}
	return ""
}

// brief is a thing as a text that is not too long to be read.
func brief(x any) string {
	form := "%+v"
	switch x.(type) {
	case api.Errno, []api.Errno:
		form = "%d" // as errors all of them are the same text
	}
	text := strings.ToValidUTF8(fmt.Sprintf(form, x), "?")
	if len(text) > 500 {
		text = text[:500] + " .."
	}
	return text
}

// copiedCmd is a command in memory of its own.
func copiedCmd(c api.Cmd) api.Cmd {
	c.Up.Row, c.Front, c.Sheet = slices.Clone(c.Up.Row), slices.Clone(c.Front), slices.Clone(c.Sheet)
	return c
}

func copiedCmds(l []api.Cmd) []api.Cmd {
	var own []api.Cmd
	for _, c := range l {
		own = append(own, copiedCmd(c))
	}
	return own
}

func copiedFronts(l [][]api.Time) [][]api.Time {
	var own [][]api.Time
	for _, f := range l {
		own = append(own, slices.Clone(f))
	}
	return own
}

// advanced: is one of f not above t in either way?
func advanced(f []api.Time, t api.Time) bool {
	return slices.ContainsFunc(f, func(u api.Time) bool { return u.Epoch <= t.Epoch && u.Round <= t.Round })
}

// grid are all times with numbers below a bound.
func grid(bound int) []api.Time {
	var l []api.Time
	for epoch := range bound {
		for round := range bound {
			l = append(l, pair(epoch, round))
		}
	}
	return l
}

// stairs are so many times of which none is LessEq to another one.
func stairs(count int) []api.Time {
	var l []api.Time
	for i := range count {
		l = append(l, pair(i, count-1-i))
	}
	return l
}

// noNumbers are numbers that none of so many has.
func noNumbers(many int) []int {
	return []int{low, low + 1, -1 << 32, -2, -1, many, many + 1, 256, 1 << 32, 1<<32 - 1, high - 1, high}
}

func input(kinds ...int) api.Node { return api.Node{Kind: api.NodeInput, Kinds: kinds} }
func mapped(in int, exprs ...[]api.Term) api.Node {
	return api.Node{Kind: api.NodeMap, Ins: []int{in}, Exprs: exprs}
}
func filter(in int, expr []api.Term) api.Node {
	return api.Node{Kind: api.NodeFilter, Ins: []int{in}, Exprs: [][]api.Term{expr}}
}
func project(in int, cols ...int) api.Node {
	return api.Node{Kind: api.NodeProject, Ins: []int{in}, Cols: cols}
}
func concat(ins ...int) api.Node  { return api.Node{Kind: api.NodeConcat, Ins: ins} }
func negate(in int) api.Node      { return api.Node{Kind: api.NodeNegate, Ins: []int{in}} }
func consolidate(in int) api.Node { return api.Node{Kind: api.NodeConsolidate, Ins: []int{in}} }
func bucket(in, col, size, slide int) api.Node {
	return api.Node{Kind: api.NodeBucket, Ins: []int{in}, N: col, Size: size, Slide: slide}
}
func arrange(in, key int) api.Node {
	return api.Node{Kind: api.NodeArrange, Ins: []int{in}, Key: key}
}
func folds(kind, in, key, n int) api.Node {
	return api.Node{Kind: kind, Ins: []int{in}, Key: key, N: n}
}
func counts(in, key int) api.Node { return folds(api.NodeCount, in, key, 0) }
func joins(a, b, key int) api.Node {
	return api.Node{Kind: api.NodeJoin, Ins: []int{a, b}, Key: key}
}

func col(i int) []api.Term    { return []api.Term{{Op: api.OpCol, Int: i}} }
func number(x int) []api.Term { return []api.Term{{Op: api.OpInt, Int: x}} }

// of is a step behind others.
func of(op int, l ...[]api.Term) []api.Term {
	return append(slices.Concat(l...), api.Term{Op: op})
}

// planOf is a plan whose last node is its out.
func planOf(room int, nodes ...api.Node) api.Plan {
	return api.Plan{Nodes: nodes, Outs: []int{len(nodes) - 1}, Room: room}
}

// outsAre is a plan with other outs.
func outsAre(p api.Plan, outs ...int) api.Plan {
	p.Outs = outs
	return p
}

// bytesOf is a plan's sheet; whether the plan may be is not asked.
func bytesOf(p api.Plan) []byte {
	b, e := sheet.Encode(p)
	if e != api.OK {
		panic("a plan that cannot be told")
	}
	return b
}

// The commands.
func install(p api.Plan) api.Cmd { return api.Cmd{Do: api.CmdInstall, Sheet: bytesOf(p)} }
func insert(at int, u api.Up) api.Cmd {
	return api.Cmd{Do: api.CmdInsert, Node: at, Up: u}
}
func advance(at int, l ...api.Time) api.Cmd {
	return api.Cmd{Do: api.CmdAdvance, Node: at, Front: l}
}
func step(at, fuel int) api.Cmd { return api.Cmd{Do: api.CmdStep, Node: at, Fuel: fuel} }
func compact(at int, l ...api.Time) api.Cmd {
	return api.Cmd{Do: api.CmdCompact, Node: at, Front: l}
}
func peek(at int, t api.Time) api.Cmd {
	return api.Cmd{Do: api.CmdPeek, Node: at, Up: api.Up{Time: t}}
}
func poll(i int) api.Cmd { return api.Cmd{Do: api.CmdPoll, Node: i} }

func cmds(l ...api.Cmd) []api.Cmd { return l }

// and is a script with more commands behind it, in memory of its own.
func and(l []api.Cmd, more ...api.Cmd) []api.Cmd { return slices.Concat(l, more) }

// everyKind is a plan in which each kind of node is, and leads to an out.
func everyKind() api.Plan {
	return outsAre(planOf(4, input(num, text), input(num, num),
		mapped(1, of(api.OpAdd, col(0), number(0)), col(1)), filter(2, of(api.OpLess, col(1), number(5))), project(3, 0, 1), concat(4, 1), negate(5), consolidate(6),
		bucket(7, 1, 4, 2), arrange(8, 1), joins(0, 9, 1),
		folds(api.NodeDistinct, 9, 0, 0), folds(api.NodeCount, 10, 1, 0), folds(api.NodeSum, 11, 1, 1), folds(api.NodeMin, 11, 1, 0), folds(api.NodeMax, 11, 1, 0), folds(api.NodeTop, 11, 1, 2)),
		12, 13, 14, 15, 16, 10, 7, 0)
}

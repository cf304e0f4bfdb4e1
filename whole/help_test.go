// Package whole_test holds the promises of the whole (E1 to E5 of shared/doc's DOC.md), which speak of all layers together.
package whole_test

import (
	"fmt"
	"math"
	"slices"
	"strings"

	"runnel/api"
	"runnel/sheet"
)

const (
	low   = math.MinInt
	high  = math.MaxInt
	ints  = api.KindInt
	texts = api.KindStr
)

func pair(epoch, round int) api.Time { return api.Time{Epoch: epoch, Round: round} }

func times(l ...api.Time) []api.Time { return l }

// r is a row of numbers.
func r(values ...int) api.Row {
	var l api.Row
	for _, v := range values {
		l = append(l, api.Val{Int: v})
	}
	return l
}

func up(r api.Row, epoch, round, diff int) api.Up {
	return api.Up{Row: r, Time: pair(epoch, round), Diff: diff}
}

// sameVal: what tells of a value, and no more.
func sameVal(a, b api.Val) bool {
	return a.Kind == b.Kind && (a.Kind != ints || a.Int == b.Int) && (a.Kind != texts || a.Str == b.Str)
}

func sameRow(a, b api.Row) bool { return slices.EqualFunc(a, b, sameVal) }

func sameCounts(a, b []api.Count) bool {
	return slices.EqualFunc(a, b, func(x, y api.Count) bool { return x.Diff == y.Diff && sameRow(x.Row, y.Row) })
}

func sameUp(a, b api.Up) bool { return a.Time == b.Time && a.Diff == b.Diff && sameRow(a.Row, b.Row) }

func sameNotes(a, b []api.Note) bool {
	return slices.EqualFunc(a, b, func(x, y api.Note) bool {
		return x.Out == y.Out && x.IsUp == y.IsUp && sameUp(x.Up, y.Up) && slices.Equal(x.Front, y.Front)
	})
}

func sameTold(a, b api.Told) bool {
	return sameNotes(a.Notes, b.Notes) && slices.Equal(a.Codes, b.Codes) && slices.EqualFunc(a.Peeks, b.Peeks, sameCounts)
}

// sameCmd: of all fields, those that a command does not use among them.
func sameCmd(a, b api.Cmd) bool {
	return a.Do == b.Do && a.Node == b.Node && a.Fuel == b.Fuel && sameUp(a.Up, b.Up) && slices.Equal(a.Front, b.Front) && slices.Equal(a.Sheet, b.Sheet)
}

// rowName is a row as a text, in which only what tells rows apart stands.
func rowName(l api.Row) string {
	var b strings.Builder
	for _, v := range l {
		if v.Kind == ints {
			fmt.Fprintf(&b, "n%d ", v.Int)
		} else {
			fmt.Fprintf(&b, "t%q ", v.Str)
		}
	}
	return b.String()
}

// brief is a thing as a text that is not too long to be read.
func brief(x any) string {
	text := strings.ToValidUTF8(fmt.Sprintf("%+v", x), "?")
	if len(text) > 900 {
		text = text[:900] + " .."
	}
	return text
}

func isLessEq(a, b api.Time) bool { return a.Epoch <= b.Epoch && a.Round <= b.Round }

// advanced: is one of f not above t in either way?
func advanced(f []api.Time, t api.Time) bool {
	return slices.ContainsFunc(f, func(u api.Time) bool { return isLessEq(u, t) })
}

// least are the times to which no other one is LessEq, each once, in order.
func least(l []api.Time) []api.Time {
	var kept []api.Time
	for _, t := range l {
		beats := func(u api.Time) bool { return u != t && isLessEq(u, t) }
		if !slices.ContainsFunc(l, beats) && !slices.Contains(kept, t) {
			kept = append(kept, t)
		}
	}
	slices.SortFunc(kept, func(a, b api.Time) int { return a.Epoch - b.Epoch })
	return kept
}

// standsFor is the time that stands for another one, where only times in advance of f are asked for.
func standsFor(f []api.Time, t api.Time) api.Time {
	var rep api.Time
	for i, u := range f {
		epoch, round := max(t.Epoch, u.Epoch), max(t.Round, u.Round)
		if i == 0 {
			rep = pair(epoch, round)
		}
		rep = pair(min(rep.Epoch, epoch), min(rep.Round, round))
	}
	return rep
}

// grid are all times with numbers below a bound.
func grid(bound int) []api.Time {
	var l []api.Time
	for epoch := range bound {
		for round := range bound {
			l = append(l, pair(epoch, round))
		}
	}
	return l
}

func input(kinds ...int) api.Node { return api.Node{Kind: api.NodeInput, Kinds: kinds} }
func fed(kind int, ins ...int) api.Node {
	return api.Node{Kind: kind, Ins: ins}
}
func keyed(kind, key, n int, ins ...int) api.Node {
	return api.Node{Kind: kind, Key: key, N: n, Ins: ins}
}

func col(i int) []api.Term    { return []api.Term{{Op: api.OpCol, Int: i}} }
func number(x int) []api.Term { return []api.Term{{Op: api.OpInt, Int: x}} }

// of is a step behind others.
func of(op int, l ...[]api.Term) []api.Term {
	return append(slices.Concat(l...), api.Term{Op: op})
}

// planOf is a plan whose last node is its out.
func planOf(room int, nodes ...api.Node) api.Plan {
	return api.Plan{Nodes: nodes, Outs: []int{len(nodes) - 1}, Room: room}
}

// ofKind are the nodes of a kind.
func ofKind(p api.Plan, kind int) []int {
	var l []int
	for at, n := range p.Nodes {
		if n.Kind == kind {
			l = append(l, at)
		}
	}
	return l
}

// bytesOf is a plan's sheet; whether the plan may be is not asked.
func bytesOf(p api.Plan) []byte {
	b, e := sheet.Encode(p)
	if e != api.OK {
		panic("a plan that cannot be told")
	}
	return b
}

// The commands.
func install(p api.Plan) api.Cmd { return api.Cmd{Do: api.CmdInstall, Sheet: bytesOf(p)} }
func insert(at int, u api.Up) api.Cmd {
	return api.Cmd{Do: api.CmdInsert, Node: at, Up: u}
}
func advance(at int, l ...api.Time) api.Cmd {
	return api.Cmd{Do: api.CmdAdvance, Node: at, Front: l}
}
func step(at, fuel int) api.Cmd { return api.Cmd{Do: api.CmdStep, Node: at, Fuel: fuel} }
func compact(at int, l ...api.Time) api.Cmd {
	return api.Cmd{Do: api.CmdCompact, Node: at, Front: l}
}
func peek(at int, t api.Time) api.Cmd {
	return api.Cmd{Do: api.CmdPeek, Node: at, Up: api.Up{Time: t}}
}
func poll(i int) api.Cmd { return api.Cmd{Do: api.CmdPoll, Node: i} }

// everyKind is a plan in which each kind of node is, and leads to an out.
func everyKind() api.Plan {
	p := planOf(4, input(ints, texts), input(ints, ints),
		api.Node{Kind: api.NodeMap, Ins: []int{1}, Exprs: [][]api.Term{of(api.OpAdd, col(0), number(0)), col(1)}}, api.Node{Kind: api.NodeFilter, Ins: []int{2}, Exprs: [][]api.Term{of(api.OpLess, col(1), number(5))}},
		api.Node{Kind: api.NodeProject, Ins: []int{3}, Cols: []int{0, 1}}, fed(api.NodeConcat, 4, 1), fed(api.NodeNegate, 5), fed(api.NodeConsolidate, 6),
		api.Node{Kind: api.NodeBucket, Ins: []int{7}, N: 1, Size: 4, Slide: 2}, keyed(api.NodeArrange, 1, 0, 8), keyed(api.NodeJoin, 1, 0, 0, 9),
		fed(api.NodeDistinct, 9), keyed(api.NodeCount, 1, 0, 10), keyed(api.NodeSum, 1, 1, 11), keyed(api.NodeMin, 1, 0, 11), keyed(api.NodeMax, 1, 0, 11), keyed(api.NodeTop, 1, 2, 11))
	p.Outs = []int{12, 13, 14, 15, 16, 10, 7, 0}
	return p
}

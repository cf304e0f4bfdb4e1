package flow_test

import (
	"fmt"
	"math"
	"slices"
	"strings"
	"testing"

	"runnel/api"
	"runnel/flow"
	"runnel/moment"
	"runnel/row"
)

const (
	low  = math.MinInt
	high = math.MaxInt
	num  = api.KindInt
	text = api.KindStr
)

func n(x int) api.Val    { return api.Val{Kind: num, Int: x} }
func s(x string) api.Val { return api.Val{Kind: text, Str: x} }

// r is a row of numbers, texts and values.
func r(values ...any) api.Row {
	var l api.Row
	for _, v := range values {
		switch x := v.(type) {
		case int:
			l = append(l, n(x))
		case string:
			l = append(l, s(x))
		case api.Val:
			l = append(l, x)
		}
	}
	return l
}

func pair(epoch, round int) api.Time { return api.Time{Epoch: epoch, Round: round} }

func times(l ...api.Time) []api.Time { return l }

func up(r api.Row, epoch, round, diff int) api.Up {
	return api.Up{Row: r, Time: pair(epoch, round), Diff: diff}
}

func ups(l ...api.Up) []api.Up { return l }

func count(diff int, r api.Row) api.Count { return api.Count{Row: r, Diff: diff} }

func same(u, v api.Up) bool {
	return row.Same(u.Row, v.Row) && u.Time == v.Time && u.Diff == v.Diff
}

func sameCount(a, b api.Count) bool { return row.Same(a.Row, b.Row) && a.Diff == b.Diff }

// copied is a change in memory of its own.
func copied(u api.Up) api.Up {
	u.Row = slices.Clone(u.Row)
	return u
}

// told is x as a text that is not too long to be read.
func told(x any) string {
	text := strings.ToValidUTF8(fmt.Sprintf("%+v", x), "?")
	if len(text) > 500 {
		text = text[:500] + " .."
	}
	return text
}

func isTime(t api.Time) bool {
	return t.Epoch >= 0 && t.Epoch <= api.MaxTime && t.Round >= 0 && t.Round <= api.MaxTime
}

// advanced: is one of f not above t in either way?
func advanced(f []api.Time, t api.Time) bool {
	return slices.ContainsFunc(f, func(u api.Time) bool { return u.Epoch <= t.Epoch && u.Round <= t.Round })
}

// least are the times to which no other one is LessEq, each once, in order: each is held against each that is another.
func least(l []api.Time) []api.Time {
	l = slices.Clone(l)
	slices.SortFunc(l, moment.Order)
	l = slices.Compact(l)
	var told []api.Time
	for _, t := range l {
		if !slices.ContainsFunc(l, func(u api.Time) bool { return u != t && u.Epoch <= t.Epoch && u.Round <= t.Round }) {
			told = append(told, t)
		}
	}
	return told
}

// grid are all times with numbers below a bound.
func grid(bound int) []api.Time {
	var l []api.Time
	for epoch := range bound {
		for round := range bound {
			l = append(l, pair(epoch, round))
		}
	}
	return l
}

// stairs are so many times of which none is LessEq to another one, from a time on.
func stairs(from api.Time, count int) []api.Time {
	var l []api.Time
	for i := range count {
		l = append(l, pair(from.Epoch+i, from.Round+count-1-i))
	}
	return l
}

func input(kinds ...int) api.Node { return api.Node{Kind: api.NodeInput, Kinds: kinds} }
func mapped(in int, exprs ...[]api.Term) api.Node {
	return api.Node{Kind: api.NodeMap, Ins: []int{in}, Exprs: exprs}
}
func filter(in int, expr []api.Term) api.Node {
	return api.Node{Kind: api.NodeFilter, Ins: []int{in}, Exprs: [][]api.Term{expr}}
}
func project(in int, cols ...int) api.Node {
	return api.Node{Kind: api.NodeProject, Ins: []int{in}, Cols: cols}
}
func concat(ins ...int) api.Node  { return api.Node{Kind: api.NodeConcat, Ins: ins} }
func negate(in int) api.Node      { return api.Node{Kind: api.NodeNegate, Ins: []int{in}} }
func consolidate(in int) api.Node { return api.Node{Kind: api.NodeConsolidate, Ins: []int{in}} }
func bucket(in, col, size, slide int) api.Node {
	return api.Node{Kind: api.NodeBucket, Ins: []int{in}, N: col, Size: size, Slide: slide}
}
func arrange(in, key int) api.Node {
	return api.Node{Kind: api.NodeArrange, Ins: []int{in}, Key: key}
}
func folds(kind, in, key, n int) api.Node {
	return api.Node{Kind: kind, Ins: []int{in}, Key: key, N: n}
}
func counts(in, key int) api.Node { return folds(api.NodeCount, in, key, 0) }
func joins(a, b, key int) api.Node {
	return api.Node{Kind: api.NodeJoin, Ins: []int{a, b}, Key: key}
}

func col(i int) []api.Term    { return []api.Term{{Op: api.OpCol, Int: i}} }
func number(x int) []api.Term { return []api.Term{{Op: api.OpInt, Int: x}} }

// of is a step behind others.
func of(op int, l ...[]api.Term) []api.Term {
	return append(slices.Concat(l...), api.Term{Op: op})
}

// planOf is a plan whose last node is its out.
func planOf(room int, nodes ...api.Node) api.Plan {
	return api.Plan{Nodes: nodes, Outs: []int{len(nodes) - 1}, Room: room}
}

// outsAre is a plan with other outs.
func outsAre(p api.Plan, outs ...int) api.Plan {
	p.Outs = outs
	return p
}

// puts is inserts that are taken.
func (w *watched) puts(at int, l ...api.Up) {
	w.t.Helper()
	for _, u := range l {
		w.refuses(at, u, api.OK)
	}
}

// refuses is an Insert with an error: what changes is what the model says.
func (w *watched) refuses(at int, u api.Up, want api.Errno) {
	w.t.Helper()
	step := fmt.Sprintf("Insert(%d, %s)", at, told(u))
	if e := w.insert(at, u); e != want {
		w.fatal(step, "error %d, want %d", int(e), int(want))
	}
	w.hold(step)
}

// moves is an Advance that is taken, stays one with an error.
func (w *watched) moves(at int, l ...api.Time) {
	w.t.Helper()
	w.stays(at, l, api.OK)
}

func (w *watched) stays(at int, l []api.Time, want api.Errno) {
	w.t.Helper()
	step := fmt.Sprintf("Advance(%d, %s)", at, told(l))
	if e := w.advance(at, l); e != want {
		w.fatal(step, "error %d, want %d", int(e), int(want))
	}
	w.hold(step)
}

// forgets is a Compact with an answer.
func (w *watched) forgets(at int, l []api.Time, want api.Errno) {
	w.t.Helper()
	step := fmt.Sprintf("Compact(%d, %s)", at, told(l))
	if e := w.compact(at, l); e != want {
		w.fatal(step, "error %d, want %d", int(e), int(want))
	}
	w.hold(step)
}

// steps is a Step that leaves so much.
func (w *watched) steps(at, fuel, want int) {
	w.t.Helper()
	step := fmt.Sprintf("Step(%d, %d)", at, fuel)
	if left, e := w.step(at, fuel); left != want || e != api.OK {
		w.fatal(step, "%d, error %d, want %d", left, int(e), want)
	}
	w.hold(step)
}

// sees is a Peek with what it tells, peekFails one with an error.
func (w *watched) sees(at int, t api.Time, want ...api.Count) {
	w.t.Helper()
	step := fmt.Sprintf("Peek(%d, %v)", at, t)
	if got, e := w.peek(at, t); e != api.OK || !slices.EqualFunc(got, want, sameCount) {
		w.fatal(step, "%v, error %d, want %v", got, int(e), want)
	}
	w.hold(step)
}

func (w *watched) peekFails(at int, t api.Time, want api.Errno) {
	w.t.Helper()
	step := fmt.Sprintf("Peek(%d, %v)", at, t)
	if got, e := w.peek(at, t); e != want || len(got) > 0 {
		w.fatal(step, "%v, error %d, want error %d", got, int(e), int(want))
	}
	w.hold(step)
}

// isQuiet asks for Quiet twice: what it advances does not change the answer.
func (w *watched) isQuiet(want bool) {
	w.t.Helper()
	for range 2 {
		if got := w.quiet(); got != want {
			w.fatal("Quiet", "%v, want %v", got, want)
		}
		w.hold("Quiet")
	}
}

// frontier asks for a node's, out for all that came to an out, load for what waits and is stored.
func (w *watched) frontier(at int, want ...api.Time) {
	w.t.Helper()
	if got, e := w.f.Frontier(at); e != api.OK || !slices.Equal(got, want) {
		w.fatal("Frontier", "of node %d: %v, error %d, want %v", at, got, int(e), want)
	}
}

func (w *watched) out(i int, want ...api.Up) {
	w.t.Helper()
	if got, e := w.f.Out(i); e != api.OK || !slices.EqualFunc(got, want, same) {
		w.fatal("Out", "number %d: %v, error %d, want %v", i, got, int(e), want)
	}
}

func (w *watched) load(waiting, stored int) {
	w.t.Helper()
	if gotWaiting, gotStored := w.f.Load(); gotWaiting != waiting || gotStored != stored {
		w.fatal("Load", "%d, %d, want %d, %d", gotWaiting, gotStored, waiting, stored)
	}
}

// since asks for the Since of a node's spines, one by one.
func (w *watched) since(at int, want ...[]api.Time) {
	w.t.Helper()
	l := w.f.Spines(at)
	if len(l) != len(want) {
		w.fatal("Spines", "%d of node %d, want %d", len(l), at, len(want))
	}
	for i, s := range l {
		if !slices.Equal(s.Since(), want[i]) {
			w.fatal("Since", "of spine %d of node %d: %s, want %s", i, at, told(s.Since()), told(want[i]))
		}
	}
}

func TestThePage(t *testing.T) { // P24.1 to P24.5: the page's example
	f, e := flow.New(api.Plan{Nodes: []api.Node{{Kind: api.NodeInput, Kinds: []int{num}}, {Kind: api.NodeCount, Ins: []int{0}, Key: 0}}, Outs: []int{1}, Room: 1})
	if e != api.OK {
		t.Fatalf("New: error %d", int(e))
	}
	if e := f.Insert(0, up(r(7), 0, 0, 1)); e != api.OK {
		t.Fatalf("Insert: error %d", int(e))
	}
	if e := f.Advance(0, times(pair(1, 0))); e != api.OK {
		t.Fatalf("Advance: error %d", int(e))
	}
	if _, e := f.Step(1, 9); e != api.OK {
		t.Fatalf("Step: error %d", int(e))
	}
	if l, e := f.Out(0); e != api.OK || !slices.EqualFunc(l, ups(up(r(1), 0, 0, 1)), same) {
		t.Fatalf("Out: %v, error %d", l, int(e))
	}
	if l, e := f.Frontier(1); e != api.OK || !slices.Equal(l, times(pair(1, 0))) {
		t.Fatalf("Frontier: %v, error %d", l, int(e))
	}
}

func TestByHand(t *testing.T) { // P24.1 to P24.5: a row of calls, each told by hand
	p := outsAre(planOf(2, input(num, text), filter(0, of(api.OpLess, number(0), col(0))), arrange(1, 1), counts(2, 1), joins(2, 3, 1), consolidate(4)), 5, 3)
	w := watch(t, "by hand", p)
	w.isQuiet(true)
	w.load(0, 0)
	w.puts(0, up(r(1, "a"), 0, 0, 1), up(r(0, "a"), 0, 0, 1), up(r(1, "b"), 1, 0, 2))
	w.load(3, 0)
	w.isQuiet(false)
	w.frontier(1, pair(0, 0))
	w.steps(1, 9, 6) // (0 a) does not come through
	w.load(2, 0)
	w.moves(0, pair(0, 1))
	w.frontier(0, pair(0, 1))
	w.frontier(1, pair(0, 1))
	w.frontier(2, pair(0, 0)) // (1 a) waits there
	w.steps(2, 1, 0)
	w.frontier(2, pair(0, 1), pair(1, 0)) // (1 b) waits at (1, 0)
	w.load(3, 1)
	w.sees(2, pair(0, 0), count(1, r(1, "a")))
	w.peekFails(2, pair(1, 0), api.ErrOpen)
	w.peekFails(2, pair(0, 1), api.ErrOpen)
	w.steps(2, 9, 6) // two changes are merged
	w.load(4, 2)
	w.steps(2, 9, 9)
	w.frontier(2, pair(0, 1))
	w.steps(4, 9, 5) // two are accepted, nothing of the other side is there, and two are merged
	w.frontier(4, pair(0, 0))
	w.load(2, 4)
	w.steps(3, 2, 0)
	w.frontier(3, pair(0, 0)) // it is to do at (0, 0) and (1, 0)
	w.load(0, 6)
	w.out(1)
	w.steps(3, 1, 0)
	w.out(1, up(r(1, 1), 0, 0, 1))
	w.frontier(3, pair(0, 1), pair(1, 0)) // something may come to (0, 1) yet, and (1, 0) is to do
	w.steps(3, 1, 0)
	w.out(1, up(r(1, 1), 0, 0, 1), up(r(1, 1), 1, 0, -1), up(r(1, 3), 1, 0, 1))
	w.load(3, 9)
	w.steps(4, 1, 0)
	w.load(4, 10) // (1 1) at (0, 0) meets (1 a) at (0, 0) and (1 b) at (1, 0)
	w.steps(4, 1, 0)
	w.steps(5, 9, 7)
	w.out(0, up(r(1, "a", 1), 0, 0, 1))
	w.load(3, 10)
	w.steps(4, 1, 0)
	w.steps(4, 2, 0)
	w.steps(5, 9, 7)
	w.out(0, up(r(1, "a", 1), 0, 0, 1))
	w.load(2, 13)                              // something may come to (1, 0) yet: two are held
	w.stays(0, times(pair(2, 0)), api.ErrTime) // it lies beside (0, 1)
	w.moves(0, pair(2, 1))
	w.settle(1)
	w.out(0, up(r(1, "a", 1), 0, 0, 1), up(r(1, "a", 1), 1, 0, -1), up(r(1, "a", 3), 1, 0, 1), up(r(1, "b", 3), 1, 0, 2))
	for at := range p.Nodes {
		w.frontier(at, pair(2, 1))
	}
	w.sees(2, pair(1, 9), count(1, r(1, "a")), count(2, r(1, "b")))
	w.means(grid(4))
}

// one is a node of an input, what is inserted, ahead of an Advance to (9, 9), and what comes to the out of it.
type one struct {
	name   string
	kinds  []int
	node   api.Node
	in     []api.Up
	turns  int // how many there are
	stored int // how many changes are stored when it is quiet
	want   []api.Up
}

// eachKind is an example of every kind of node that has one in.
func eachKind() []one {
	some := ups(up(r(1, 5), 0, 0, 2), up(r(1, 7), 1, 0, 1), up(r(2, 9), 0, 1, -1), up(r(1, 5), 1, 1, -2))
	ints := []int{num, num}
	return []one{
		{"map", ints, mapped(0, of(api.OpAdd, col(0), col(1)), col(0)), some, 4, 0, ups(up(r(6, 1), 0, 0, 2), up(r(8, 1), 1, 0, 1), up(r(11, 2), 0, 1, -1), up(r(6, 1), 1, 1, -2))},
		{"filter", ints, filter(0, of(api.OpLess, col(1), number(8))), some, 4, 0, ups(up(r(1, 5), 0, 0, 2), up(r(1, 7), 1, 0, 1), up(r(1, 5), 1, 1, -2))},
		{"project", ints, project(0, 0), some, 4, 0, ups(up(r(1), 0, 0, 2), up(r(1), 1, 0, 1), up(r(2), 0, 1, -1), up(r(1), 1, 1, -2))},
		{"concat", ints, concat(0), some, 4, 0, some},
		{"negate", ints, negate(0), some, 4, 0, ups(up(r(1, 5), 0, 0, -2), up(r(1, 7), 1, 0, -1), up(r(2, 9), 0, 1, 1), up(r(1, 5), 1, 1, 2))},
		{"consolidate", ints, consolidate(0), append(some, up(r(1, 5), 0, 0, 3), up(r(1, 7), 1, 0, -1)), 9, 0, ups(up(r(1, 5), 0, 0, 5), up(r(2, 9), 0, 1, -1), up(r(1, 5), 1, 1, -2))},
		{"bucket", ints, bucket(0, 1, 4, 2), some[:2], 2, 0, ups(up(r(1, 5, 2), 0, 0, 2), up(r(1, 5, 4), 0, 0, 2), up(r(1, 7, 4), 1, 0, 1), up(r(1, 7, 6), 1, 0, 1))},
		{"arrange", ints, arrange(0, 1), some, 4, 4, some}, // it tells all times apart
		{"distinct", ints, folds(api.NodeDistinct, 0, 9, 0), some, 8, 3, ups(up(r(1, 5), 0, 0, 1), up(r(1, 7), 1, 0, 1), up(r(1, 5), 1, 1, -1))},
		{"count", ints, folds(api.NodeCount, 0, 1, 0), some, 8, 4, ups(up(r(1, 2), 0, 0, 1), up(r(2, -1), 0, 1, 1), up(r(1, 2), 1, 0, -1), up(r(1, 3), 1, 0, 1), up(r(1, 1), 1, 1, 1), up(r(1, 3), 1, 1, -1))},
		{"sum", ints, folds(api.NodeSum, 0, 1, 1), some, 8, 4, ups(up(r(1, 10), 0, 0, 1), up(r(2, -9), 0, 1, 1), up(r(1, 10), 1, 0, -1), up(r(1, 17), 1, 0, 1), up(r(1, 7), 1, 1, 1), up(r(1, 17), 1, 1, -1))},
		{"min", ints, folds(api.NodeMin, 0, 1, 0), some, 8, 3, ups(up(r(1, 5), 0, 0, 1), up(r(1, 5), 1, 1, -1), up(r(1, 7), 1, 1, 1))},
		{"max", ints, folds(api.NodeMax, 0, 1, 0), some, 8, 3, ups(up(r(1, 5), 0, 0, 1), up(r(1, 5), 1, 0, -1), up(r(1, 7), 1, 0, 1))},
		{"top", ints, folds(api.NodeTop, 0, 1, 2), some, 8, 3, ups(up(r(1, 5), 0, 0, 2), up(r(1, 5), 1, 1, -2), up(r(1, 7), 1, 1, 1))},
	}
}

func TestEachKind(t *testing.T) { // P24.4: what comes of each kind of node, turn by turn, and in one Step
	for _, k := range eachKind() {
		for _, fuel := range []int{1, 2, 1000} {
			w := watch(t, fmt.Sprint(k.name, " with ", fuel), planOf(5, input(k.kinds...), k.node))
			w.puts(0, k.in...)
			w.moves(0, pair(9, 9))
			w.means(grid(3))
			w.settle(fuel)
			w.out(0, k.want...)
			if w.means(grid(3)) != 9 {
				t.Fatalf("%s: it is not all closed", k.name)
			}
		}
		w := watch(t, k.name, planOf(5, input(k.kinds...), k.node))
		w.puts(0, k.in...)
		w.moves(0, pair(9, 9))
		for range k.turns {
			if w.isQuiet(false); w.f.Failed() != api.OK {
				t.Fatal("it has failed")
			}
			w.steps(1, 1, 0)
		}
		w.out(0, k.want...)
		if l, _ := w.f.Frontier(1); !slices.Equal(l, times(pair(9, 9))) {
			t.Fatalf("%s: behind %d turns its frontier is %v", k.name, k.turns, l)
		}
		w.settle(1)
		w.out(0, k.want...)
		w.load(0, k.stored)
	}
}

func TestJoinOfTwoInputs(t *testing.T) { // P24.4: of what meets, at the join of the times
	w := watch(t, "join", planOf(5, input(num, text), input(num, num), joins(0, 1, 1)))
	w.puts(0, up(r(1, "a"), 1, 0, 2), up(r(2, "b"), 0, 0, 1))
	w.puts(1, up(r(1, 6), 0, 2, 3), up(r(3, 7), 0, 0, 1))
	w.steps(2, 3, 0)
	w.load(2, 3) // one that came of two, and (3 7)
	w.frontier(2, pair(0, 0))
	w.moves(0, pair(5, 5))
	w.moves(1, pair(5, 5))
	w.frontier(2, pair(0, 0))
	w.steps(2, 1, 0)
	w.out(0, up(r(1, "a", 6), 1, 2, 6))
	w.frontier(2, pair(0, 0))
	w.steps(2, 1, 0)
	w.frontier(2, pair(5, 5))
	w.puts(1, up(r(2, 8), 5, 5, -1), up(r(1, 6), 5, 5, -3))
	w.moves(1)
	w.settle(1)
	w.out(0, up(r(1, "a", 6), 1, 2, 6), up(r(2, "b", 8), 5, 5, -1), up(r(1, "a", 6), 5, 5, -6))
	w.frontier(2, pair(5, 5))
	if w.means(grid(6)) != 35 {
		t.Fatal("it is not all closed")
	}
}

func TestLongWay(t *testing.T) { // P24.2 to P24.4: nodes one behind the other, whose numbers fall and rise
	p := api.Plan{Nodes: []api.Node{negate(2), counts(4, 1), mapped(3, col(0), of(api.OpAdd, col(1), number(1))), input(num, num), consolidate(0)}, Outs: []int{1, 3}, Room: 1}
	w := watch(t, "a long way", p)
	w.puts(3, up(r(1, 1), 0, 0, 1), up(r(1, 2), 0, 1, 1), up(r(2, 2), 1, 0, 1))
	w.moves(3, pair(1, 0))
	for _, at := range []int{1, 4, 0} {
		w.steps(at, 5, 5)
	}
	w.steps(2, 5, 4) // there is room for one
	w.steps(2, 5, 5)
	w.steps(0, 5, 4)
	w.steps(2, 5, 4)
	w.steps(4, 5, 3) // one comes, and nothing comes ahead of it any more
	w.frontier(4, pair(0, 1), pair(1, 0))
	w.frontier(1, pair(0, 0))
	w.steps(0, 5, 4)
	w.steps(4, 5, 5) // its user has no room
	w.steps(1, 1, 0)
	w.steps(4, 5, 3)
	w.steps(4, 5, 5)
	w.frontier(1, pair(0, 0))
	w.frontier(4, pair(1, 0))
	w.frontier(0, pair(1, 0))
	w.frontier(2, pair(1, 0))
	w.settle(1)
	w.out(0, up(r(1, -1), 0, 0, 1), up(r(1, -2), 0, 1, 1), up(r(1, -1), 0, 1, -1))
	w.out(1, up(r(1, 1), 0, 0, 1), up(r(1, 2), 0, 1, 1), up(r(2, 2), 1, 0, 1))
	w.means(grid(3))
}

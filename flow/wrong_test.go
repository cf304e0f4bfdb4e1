package flow_test

import (
	"fmt"
	"slices"
	"strings"
	"testing"

	"runnel/api"
	"runnel/flow"
	"runnel/front"
)

// busyPlan is a plan with nodes of all kinds that have something to keep: an arrangement (3), a hold (4), a join (5), a fold (6); two inputs (0, 1).
func busyPlan() api.Plan {
	return outsAre(planOf(3, input(num, text), input(num, num), negate(0), arrange(2, 1), consolidate(3), joins(3, 1, 1), counts(5, 1)), 6, 0, 4, 5)
}

// busy is a flow in which something waits in queues and in the join, is held, is to do, and is to be merged.
func busy(t *testing.T, name string) *watched {
	t.Helper()
	w := watch(t, name, busyPlan())
	for i := range 5 {
		w.puts(0, up(r(i%2, "a"), i, 1, 1), up(r(i%2, "b"), 1, i, 2))
		w.puts(1, up(r(i%2, i), i, i, 1))
	}
	w.moves(0, pair(1, 3), pair(3, 2))
	w.moves(1, pair(0, 2), pair(2, 1))
	for range 2 {
		for _, at := range []int{2, 3, 4, 5, 5, 5, 5, 6} {
			w.step(at, 2)
		}
		w.hold("round")
	}
	w.steps(5, 6, 0)
	w.forgets(3, times(pair(0, 2), pair(1, 1)), api.OK)
	if w.m.joins[5].Len() == 0 || w.m.holds[4].Len() == 0 || w.m.folds[6].Todo() == 0 || len(w.m.queues[2][0]) == 0 || w.m.traces[3].Spine().Still() || len(w.m.outs[3]) == 0 {
		t.Fatalf("%s: it is not busy: %d, %d, %d", name, w.m.joins[5].Len(), w.m.holds[4].Len(), w.m.folds[6].Todo())
	}
	return w
}

// goesOn asks that a flow is as it was: all that it is asked, and what later calls tell, is held against the model, which errors left as it was.
func (w *watched) goesOn() {
	w.t.Helper()
	w.hold("behind the errors")
	w.isQuiet(false)
	w.sees(3, pair(1, 1), w.m.at(3, pair(1, 1))...)
	w.puts(0, up(r(0, "c"), 3, 3, 1))
	w.puts(1, up(r(0, 9), 2, 2, 1))
	w.settle(2)
	w.moves(0, pair(9, 9))
	w.moves(1, pair(9, 9))
	w.settle(1)
	if w.means(grid(9)) != 4*81 {
		w.fatal("all is closed", "and yet it is not")
	}
}

// at is what a trace has.
func (m *model) at(at int, t api.Time) []api.Count {
	l, _ := m.traces[at].Peek(t)
	return l
}

func TestNumbersOfNoNode(t *testing.T) { // P24.1: ErrRange in every call that takes a node or an out
	w := busy(t, "no node")
	for _, at := range noNumbers(len(w.m.p.Nodes)) {
		w.refuses(at, up(r(1, "a"), 9, 9, 1), api.ErrRange)
		w.refuses(at, up(nil, -1, 9, 0), api.ErrRange)
		w.stays(at, times(pair(9, 9)), api.ErrRange)
		w.stays(at, make([]api.Time, 17), api.ErrRange)
		w.forgets(at, times(pair(9, 9)), api.ErrRange)
		w.forgets(at, make([]api.Time, 17), api.ErrRange)
		w.peekFails(at, pair(0, 0), api.ErrRange)
		w.peekFails(at, pair(-1, 0), api.ErrRange)
		for _, fuel := range []int{low, 0, 5, high} {
			if left, e := w.step(at, fuel); left != 0 || e != api.ErrRange {
				t.Fatalf("Step(%d, %d): %d, error %d", at, fuel, left, int(e))
			}
			w.hold("Step")
		}
		if l, e := w.f.Frontier(at); len(l) > 0 || e != api.ErrRange {
			t.Fatalf("Frontier(%d): %v, error %d", at, l, int(e))
		}
		if l := w.f.Spines(at); len(l) > 0 {
			t.Fatalf("Spines(%d): %d", at, len(l))
		}
	}
	for _, i := range noNumbers(len(w.m.p.Outs)) {
		if l, e := w.f.Out(i); len(l) > 0 || e != api.ErrRange {
			t.Fatalf("Out(%d): %v, error %d", i, l, int(e))
		}
	}
	w.goesOn()
}

func TestNodesOfOtherKinds(t *testing.T) { // P24.2, P24.5: ErrKind: no input, no arrangement
	var nodes []api.Node
	for _, k := range eachKind() {
		nodes = append(nodes, k.node)
	}
	nodes = append([]api.Node{input(num, num)}, append(nodes, joins(0, 0, 1))...)
	w := watch(t, "kinds", planOf(9, nodes...))
	w.puts(0, up(r(1, 1), 0, 0, 1))
	w.moves(0, pair(1, 1))
	for at, n := range nodes {
		if n.Kind != api.NodeInput {
			w.refuses(at, up(r(1, 1), 5, 5, 1), api.ErrKind)
			w.refuses(at, up(nil, -5, 5, 0), api.ErrKind)
			w.stays(at, times(pair(5, 5)), api.ErrKind)
			w.stays(at, make([]api.Time, 17), api.ErrKind)
			w.stays(at, nil, api.ErrKind)
		}
		if n.Kind != api.NodeArrange {
			w.forgets(at, times(pair(5, 5)), api.ErrKind)
			w.forgets(at, make([]api.Time, 17), api.ErrKind)
			w.peekFails(at, pair(0, 0), api.ErrKind)
			w.peekFails(at, pair(-1, 0), api.ErrKind)
			w.peekFails(at, pair(9, 9), api.ErrKind)
		}
	}
	w.settle(1)
	w.means(grid(2))
}

func TestChangesThatDoNotFit(t *testing.T) { // P24.2: deno.Fits' errors, then the frontier
	w := busy(t, "fit")
	long := strings.Repeat("x", api.MaxText+1)
	for _, k := range []struct {
		u    api.Up
		want api.Errno
	}{
		{up(nil, 9, 9, 1), api.ErrType},
		{up(r(1), 9, 9, 1), api.ErrType},
		{up(r(1, "a", 1), 9, 9, 1), api.ErrType},
		{up(r("a", 1), 9, 9, 1), api.ErrType},
		{up(r(1, 1), 9, 9, 1), api.ErrType},
		{up(r("a", "a"), 9, 9, 1), api.ErrType},
		{up(r(1, long), 9, 9, 1), api.ErrType},
		{up(r(1, api.Val{Kind: 2}), 9, 9, 1), api.ErrType},
		{up(r(api.Val{Kind: -1}, "a"), 9, 9, 1), api.ErrType},
		{up(slices.Repeat(r(1), 17), 9, 9, 1), api.ErrType},
		{up(r(1, "a"), -1, 9, 1), api.ErrTime},
		{up(r(1, "a"), 9, -1, 1), api.ErrTime},
		{up(r(1, "a"), api.MaxTime+1, 9, 1), api.ErrTime},
		{up(r(1, "a"), 9, high, 1), api.ErrTime},
		{up(r(1, "a"), low, low, 1), api.ErrTime},
		{up(r(1, "a"), 9, 9, 0), api.ErrArg},
		{up(r(1, "a"), 0, 0, 1), api.ErrTime}, // not in advance of (1, 3), (3, 2)
		{up(r(1, "a"), 0, 99, 1), api.ErrTime},
		{up(r(1, "a"), 1, 2, 1), api.ErrTime},
		{up(r(1, "a"), 2, 2, 1), api.ErrTime},
		{up(r(1, "a"), 99, 1, 1), api.ErrTime},
		{up(r(1, 1), -1, 9, 0), api.ErrType}, // of several the first
		{up(r(1), 0, 0, 0), api.ErrType},
		{up(r(1, "a"), -1, 9, 0), api.ErrTime},
		{up(r(1, "a"), 0, 0, 0), api.ErrArg},
		{up(r(1, "a"), 2, 2, 0), api.ErrArg},
	} {
		w.refuses(0, k.u, k.want)
	}
	w.refuses(1, up(r(1, "a"), 9, 9, 1), api.ErrType)
	w.refuses(1, up(r(1, 1), 1, 1, 1), api.ErrTime)
	w.refuses(1, up(r(1, 1), 9, 0, 1), api.ErrTime)
	w.goesOn()
}

func TestChangesThatJustFit(t *testing.T) { // P24.2: each edge that is allowed; the field that plays no part
	w := watch(t, "fit", planOf(9, input(num, text), arrange(0, 2)))
	w.moves(0, pair(1, 3), pair(3, 2))
	for _, u := range ups(
		up(r(low, ""), 1, 3, high), up(r(high, strings.Repeat("x", api.MaxText)), 3, 2, low),
		up(r(api.Val{Kind: num, Int: 1, Str: "beside"}, api.Val{Kind: text, Str: "\xff\x00", Int: 7}), api.MaxTime, 2, -1),
		up(r(0, "a"), 1, api.MaxTime, 1), up(r(0, "a"), api.MaxTime, api.MaxTime, 1)) {
		w.puts(0, u)
	}
	w.moves(0)
	w.settle(1)
	if w.means(times(pair(1, 3), pair(1, 2), pair(3, 2), pair(3, 3), pair(api.MaxTime, api.MaxTime))) != 5 {
		t.Fatal("it is not all closed")
	}
}

func TestFrontiersThatAreNone(t *testing.T) { // P24.2: ErrMany, front.Check's errors, then ErrTime of those that go back or beside
	many := stairs(pair(10, 10), api.MaxGiven+1)
	unordered := slices.Clone(many[:2])
	slices.Reverse(unordered)
	seventeen := make([]api.Time, api.MaxGiven+1)
	wild := slices.Repeat(times(pair(-1, 5)), api.MaxGiven+1)
	for _, k := range []struct {
		l    []api.Time
		want api.Errno
	}{
		{many, api.ErrMany},
		{seventeen, api.ErrMany}, // also where they are no frontier
		{wild, api.ErrMany},
		{make([]api.Time, api.MaxFront+1), api.ErrMany},
		{seventeen[:16], api.ErrForm},
		{wild[:16], api.ErrTime},
		{times(pair(9, -1)), api.ErrTime},
		{times(pair(9, 9), pair(api.MaxTime+1, 0)), api.ErrTime},
		{times(pair(9, high)), api.ErrTime},
		{times(pair(low, 9)), api.ErrTime},
		{unordered, api.ErrForm},
		{times(pair(9, 9), pair(9, 9)), api.ErrForm},
		{times(pair(9, 9), pair(10, 10)), api.ErrForm},
		{times(pair(9, 9), pair(8, 8), pair(-1, 0)), api.ErrTime},
		{times(pair(0, 0), pair(0, 0)), api.ErrForm},
		{times(pair(0, 0)), api.ErrTime}, // back
		{times(pair(1, 2)), api.ErrTime},
		{times(pair(0, 9), pair(3, 2)), api.ErrTime},
		{times(pair(0, 9)), api.ErrTime}, // beside
		{times(pair(9, 0)), api.ErrTime},
		{times(pair(2, 2)), api.ErrTime},
		{times(pair(1, 3), pair(2, 2), pair(3, 1)), api.ErrTime},
		{times(pair(1, 9), pair(9, 0)), api.ErrTime},
	} {
		w := busy(t, "frontiers")
		w.stays(0, k.l, k.want)
		w.frontier(0, pair(1, 3), pair(3, 2))
		w.goesOn()
	}
	for _, fewer := range [][]api.Time{times(pair(1, 3)), times(pair(3, 2)), times(pair(3, 3)), times(pair(1, 4), pair(3, 2)), stairs(pair(3, 3), api.MaxGiven), nil} {
		w := busy(t, "further")
		w.moves(0, fewer...)
		w.frontier(0, fewer...)
		w.stays(0, times(pair(1, 3), pair(3, 2)), api.ErrTime)
		w.settle(3)
	}
}

func TestCompactsThatAreNone(t *testing.T) { // P24.5: ErrMany, then trace.Allow's errors
	w := busy(t, "compact") // to (0, 2), (1, 1)
	for _, k := range []struct {
		l    []api.Time
		want api.Errno
	}{
		{stairs(pair(10, 10), api.MaxGiven+1), api.ErrMany},
		{make([]api.Time, api.MaxGiven+1), api.ErrMany},
		{slices.Repeat(times(pair(-1, 5)), api.MaxGiven+1), api.ErrMany},
		{make([]api.Time, api.MaxFront+1), api.ErrMany},
		{make([]api.Time, api.MaxGiven), api.ErrForm},
		{times(pair(-1, 0)), api.ErrTime},
		{times(pair(0, api.MaxTime+1)), api.ErrTime},
		{times(pair(9, 0), pair(0, 9)), api.ErrForm},
		{times(pair(9, 9), pair(9, 9)), api.ErrForm},
		{times(pair(0, 0)), api.ErrTime},
		{times(pair(0, 1)), api.ErrTime},
		{times(pair(1, 0)), api.ErrTime},
		{times(pair(0, 2), pair(2, 0)), api.ErrTime},
	} {
		w.forgets(3, k.l, k.want)
		w.since(3, times(pair(0, 2), pair(1, 1)))
	}
	w.goesOn()
	w.forgets(3, stairs(pair(3, 3), api.MaxGiven), api.OK)
	w.forgets(3, nil, api.OK)
}

func TestPeeksThatAreNone(t *testing.T) { // P24.5: ErrOpen ahead of ErrCompacted, and nothing has changed
	w := busy(t, "peek")
	open, _ := w.f.Frontier(3)
	for _, x := range append(open, pair(-1, 0), pair(0, -1), pair(api.MaxTime+1, 0), pair(low, high), pair(9, 9)) {
		w.peekFails(3, x, api.ErrOpen)
	}
	for _, x := range times(pair(0, 0), pair(0, 1)) {
		w.peekFails(3, x, api.ErrCompacted)
	}
	w.goesOn()
	w = watch(t, "both", planOf(9, input(num), arrange(0, 1)))
	w.forgets(1, times(pair(5, 5)), api.OK)
	w.peekFails(1, pair(0, 0), api.ErrOpen)
	w.moves(0, pair(1, 1))
	w.peekFails(1, pair(0, 0), api.ErrCompacted)
	w.peekFails(1, pair(1, 1), api.ErrOpen)
	w.forgets(1, nil, api.OK)
	w.moves(0)
	w.peekFails(1, pair(9, 9), api.ErrCompacted)
	w.peekFails(1, pair(-9, 9), api.ErrOpen)
}

func TestNilFlow(t *testing.T) { // P24.1: ErrNil, false, zeros, nothing
	var f *flow.Flow
	for _, at := range append(noNumbers(1), 0) {
		if e := f.Insert(at, up(r(1), 0, 0, 1)); e != api.ErrNil {
			t.Errorf("Insert: error %d", int(e))
		}
		for _, l := range [][]api.Time{nil, times(pair(1, 1)), make([]api.Time, 17), times(pair(-1, 0))} {
			if e := f.Advance(at, l); e != api.ErrNil {
				t.Errorf("Advance: error %d", int(e))
			}
			if e := f.Compact(at, l); e != api.ErrNil {
				t.Errorf("Compact: error %d", int(e))
			}
		}
		for _, fuel := range []int{low, -1, 0, 1, high} {
			if left, e := f.Step(at, fuel); left != 0 || e != api.ErrNil {
				t.Errorf("Step: %d, error %d", left, int(e))
			}
		}
		for _, x := range times(pair(0, 0), pair(-1, 0)) {
			if l, e := f.Peek(at, x); len(l) > 0 || e != api.ErrNil {
				t.Errorf("Peek: %v, error %d", l, int(e))
			}
		}
		if l, e := f.Frontier(at); len(l) > 0 || e != api.ErrNil {
			t.Errorf("Frontier: %v, error %d", l, int(e))
		}
		if l, e := f.Out(at); len(l) > 0 || e != api.ErrNil {
			t.Errorf("Out: %v, error %d", l, int(e))
		}
		if l := f.Spines(at); len(l) > 0 {
			t.Errorf("Spines: %v", l)
		}
	}
	if e := f.Failed(); e != api.ErrNil {
		t.Errorf("Failed: error %d", int(e))
	}
	if f.Quiet() {
		t.Error("it is quiet")
	}
	if waiting, stored := f.Load(); waiting != 0 || stored != 0 {
		t.Errorf("Load: %d, %d", waiting, stored)
	}
}

// failing is a plan and calls of which the last one lets the flow fail.
type failing struct {
	name   string
	p      api.Plan
	ahead  func(w *watched)
	call   func(w *watched) api.Errno
	want   api.Errno
	closed int // how many times of a small grid are closed ahead of it
}

// stepOf is a call of Step.
func stepOf(at, fuel int) func(w *watched) api.Errno {
	return func(w *watched) api.Errno {
		w.t.Helper()
		left, e := w.step(at, fuel)
		if e != api.OK && left != 0 {
			w.fatal("Step", "%d is left beside error %d", left, int(e))
		}
		return e
	}
}

// put is inserts ahead of a failure.
func put(l ...api.Up) func(w *watched) {
	return func(w *watched) {
		w.t.Helper()
		w.puts(0, l...)
	}
}

// then is one behind the other.
func then(l ...func(w *watched)) func(w *watched) {
	return func(w *watched) {
		w.t.Helper()
		for _, f := range l {
			f(w)
		}
	}
}

func move(l ...api.Time) func(w *watched) {
	return func(w *watched) {
		w.t.Helper()
		w.moves(0, l...)
	}
}

// turns is Steps with fuel 1 that are done.
func turns(at, many int) func(w *watched) {
	return func(w *watched) {
		w.t.Helper()
		for range many {
			w.steps(at, 1, 0)
		}
	}
}

func smallFailures() []failing {
	long := strings.Repeat("x", api.MaxText)
	nums := []int{num, num}
	one := planOf(9, input(nums...), mapped(0, of(api.OpAdd, col(0), col(1))))
	with := func(n api.Node) api.Plan { p := copiedPlan(one); p.Nodes[1] = n; return p }
	return []failing{
		{"a map's sum", one, put(up(r(1, 2), 0, 0, 1), up(r(high, 1), 0, 0, 1)), stepOf(1, 5), api.ErrOver, 0},
		{"a map's text", planOf(9, input(text), mapped(0, of(api.OpCat, col(0), col(0)))), put(up(r("a"), 0, 0, 1), up(r(long), 0, 0, 1)), stepOf(1, 5), api.ErrLong, 0},
		{"a filter's product", with(filter(0, of(api.OpMul, col(0), col(1)))), put(up(r(low, -1), 0, 0, 1)), stepOf(1, 1), api.ErrOver, 0},
		{"a window", with(bucket(0, 1, 2, 2)), put(up(r(0, api.MaxPoint), 0, 0, 1), up(r(0, api.MaxPoint+1), 0, 0, 1)), stepOf(1, 5), api.ErrOver, 0},
		{"a negation", with(negate(0)), put(up(r(0, 0), 0, 0, high), up(r(0, 0), 0, 0, low)), stepOf(1, 2), api.ErrOver, 0},
		{"a hold", with(consolidate(0)), put(up(r(0, 0), 0, 0, high), up(r(0, 0), 0, 0, 1)), stepOf(1, 2), api.ErrOver, 0},
		{"a join's product", with(joins(0, 0, 1)), put(up(r(0, 0), 0, 0, 1<<32)), stepOf(1, 2), api.ErrOver, 0},
		{"a join's sum", with(joins(0, 0, 0)), put(up(r(0, 0), 0, 0, 1<<62), up(r(0, 0), 0, 0, 1)), stepOf(1, 9), api.ErrOver, 0},
		{"a fold's count", with(counts(0, 0)), then(put(up(r(0, 0), 0, 0, high), up(r(1, 0), 0, 0, 1)), move(pair(1, 0))), stepOf(1, 3), api.ErrOver, 0},
		{"a fold's sum", with(folds(api.NodeSum, 0, 0, 1)), then(put(up(r(0, high), 0, 0, 2)), move(pair(1, 0))), stepOf(1, 2), api.ErrOver, 0},
		{"a fold's rows", with(folds(api.NodeMin, 0, 0, 0)), then(put(up(r(0, 0), 0, 0, high), up(r(0, 0), 0, 1, 1)), move(pair(1, 2)), turns(1, 3)), stepOf(1, 1), api.ErrOver, 1},
		{"an arrangement's work", with(arrange(0, 1)), then(put(up(r(0, 0), 0, 0, low), up(r(0, 0), 0, 0, -1)), turns(1, 2)), stepOf(1, 1), api.ErrOver, 0},
		{"an arrangement's insert", with(arrange(0, 1)), then(put(slices.Repeat(ups(up(r(0, 0), 0, 0, high)), 4)...), turns(1, 3)), stepOf(1, 1), api.ErrOver, 0},
		{"a join's work", with(joins(0, 0, 2)), then(put(up(r(0, 0), 0, 0, 1<<62), up(r(0, 0), 0, 0, 1<<62)), turns(1, 2), move(pair(1, 1))), stepOf(1, 9), api.ErrOver, 0},
		{"a fold's insert", with(counts(0, 0)), then(put(slices.Repeat(ups(up(r(0, 0), 0, 0, high)), 4)...), turns(1, 3)), stepOf(1, 1), api.ErrOver, 0},
		{"a fold's work", with(counts(0, 0)), then(put(up(r(0, 0), 0, 0, high), up(r(0, 0), 0, 0, 1)), turns(1, 2)), stepOf(1, 1), api.ErrOver, 0},
		{"a way through several", planOf(9, input(num), concat(0, 0), negate(1), consolidate(2), counts(3, 1)), then(put(up(r(1), 0, 0, 1<<62)), move(pair(1, 1)), turns(1, 2), turns(2, 2)), stepOf(3, 7), api.OK, 0},
		{"one that others lead to", planOf(9, input(num), concat(0, 0), consolidate(1)), then(put(up(r(5), 0, 0, 1)), move(pair(0, 3)), turns(1, 2), turns(2, 3), put(up(r(1), 0, 3, 1<<62)), turns(1, 2), turns(2, 1)), stepOf(2, 7), api.ErrOver, 3},
	}
}

func TestFlowsThatFail(t *testing.T) { // P24.1, P24.4: by an expression, a sum or a product in a node, a merge; the error of the call is Failed's
	for _, k := range smallFailures() {
		w := watch(t, k.name, k.p)
		k.ahead(w)
		if e := k.call(w); e != k.want {
			t.Fatalf("%s: error %d, want %d", k.name, int(e), int(k.want))
		}
		w.hold("the call")
		if k.want == api.OK {
			w.settle(1)
			continue
		}
		if closed := w.means(grid(3)); closed < k.closed || k.closed == 0 && closed > 0 {
			t.Fatalf("%s: %d are closed, want %d", k.name, closed, k.closed)
		}
		w.hasFailed(k.want)
	}
}

// hasFailed asks every call of a flow that has failed, again and again: those that do not answer the error end, and nothing comes any more.
func (w *watched) hasFailed(want api.Errno) {
	w.t.Helper()
	outs, frontiers := w.allOuts(), w.allFrontiers()
	waiting, stored := w.f.Load()
	for _, at := range append(noNumbers(len(w.m.p.Nodes)), 0, 1) {
		if e := w.f.Insert(at, up(r(1, 1), 5, 5, 1)); e != want {
			w.fatal("failed", "Insert: error %d", int(e))
		}
		for _, l := range [][]api.Time{nil, times(pair(9, 9)), make([]api.Time, 17)} {
			if e := w.f.Advance(at, l); e != want {
				w.fatal("failed", "Advance: error %d", int(e))
			}
			if e := w.f.Compact(at, l); e != want {
				w.fatal("failed", "Compact: error %d", int(e))
			}
		}
		for _, fuel := range []int{low, 0, 1, 1000} {
			if left, e := w.f.Step(at, fuel); left != 0 || e != want {
				w.fatal("failed", "Step: %d, error %d", left, int(e))
			}
		}
		for _, x := range times(pair(0, 0), pair(-1, 0), pair(9, 9)) {
			if l, e := w.f.Peek(at, x); len(l) > 0 || e != want {
				w.fatal("failed", "Peek: %v, error %d", l, int(e))
			}
		}
		if w.f.Failed() != want || w.f.Quiet() {
			w.fatal("failed", "Failed %d, Quiet %v", int(w.f.Failed()), w.f.Quiet())
		}
	}
	for _, at := range noNumbers(len(w.m.p.Nodes)) {
		if l, e := w.f.Frontier(at); len(l) > 0 || e != api.ErrRange {
			w.fatal("failed", "Frontier(%d): %v, error %d", at, l, int(e))
		}
		if len(w.f.Spines(at)) > 0 {
			w.fatal("failed", "Spines(%d)", at)
		}
	}
	for _, i := range noNumbers(len(w.m.p.Outs)) {
		if l, e := w.f.Out(i); len(l) > 0 || e != api.ErrRange {
			w.fatal("failed", "Out(%d): %v, error %d", i, l, int(e))
		}
	}
	for i, l := range w.allOuts() {
		if !slices.EqualFunc(l, outs[i], same) {
			w.fatal("failed", "out %d: %v, it was %v", i, l, outs[i])
		}
	}
	if !slices.EqualFunc(w.allFrontiers(), frontiers, slices.Equal) {
		w.fatal("failed", "frontiers %v, they were %v", w.allFrontiers(), frontiers)
	}
	if nowWaiting, nowStored := w.f.Load(); nowWaiting != waiting || nowStored != stored {
		w.fatal("failed", "Load %d, %d, it was %d, %d", nowWaiting, nowStored, waiting, stored)
	}
	for at, n := range w.m.p.Nodes {
		if got, want := len(w.f.Spines(at)), spinesOf(n); got != want {
			w.fatal("failed", "node %d has %d spines, want %d", at, got, want)
		}
	}
}

// spinesOf is how many a node has.
func spinesOf(n api.Node) int {
	switch {
	case n.Kind == api.NodeArrange:
		return 1
	case n.Kind >= api.NodeDistinct:
		return 2
	}
	return 0
}

func (w *watched) allOuts() [][]api.Up {
	var all [][]api.Up
	for i := range w.m.p.Outs {
		l, e := w.f.Out(i)
		if e != api.OK {
			w.fatal("Out", "error %d", int(e))
		}
		all = append(all, l)
	}
	return all
}

func (w *watched) allFrontiers() [][]api.Time {
	var all [][]api.Time
	for at := range w.m.p.Nodes {
		l, e := w.f.Frontier(at)
		if e != api.OK || front.Check(l) != api.OK {
			w.fatal("Frontier", "%v, error %d", l, int(e))
		}
		all = append(all, l)
	}
	return all
}

func TestQueueThatIsFull(t *testing.T) { // P24.2: a queue takes MaxQueue, and no more
	w := watch(t, "full", outsAre(planOf(api.MaxRoom, input(num), negate(0), concat(0)), 1))
	for i := range api.MaxQueue {
		if e := w.f.Insert(0, up(r(i), 0, 0, 1)); e != api.OK {
			t.Fatalf("number %d: error %d", i, int(e))
		}
	}
	if waiting, _ := w.f.Load(); waiting != 2*api.MaxQueue || w.f.Failed() != api.OK {
		t.Fatalf("%d wait, Failed %d", waiting, int(w.f.Failed()))
	}
	again := func(w *watched) {
		t.Helper()
		if e := w.f.Insert(0, up(r(7), 0, 0, 1)); e != api.ErrMany || w.f.Failed() != api.ErrMany {
			t.Fatalf("error %d, Failed %d", int(e), int(w.f.Failed()))
		}
		w.hasFailed(api.ErrMany)
	}
	again(w)
	w = watch(t, "one user is", outsAre(planOf(api.MaxRoom, input(num), negate(0), concat(0)), 2, 0))
	for i := range api.MaxQueue - 1 {
		w.f.Insert(0, up(r(i), 0, 0, 1))
	}
	for range 5 {
		if left, e := w.f.Step(1, 1); left != 0 || e != api.OK {
			t.Fatalf("Step: %d, error %d", left, int(e))
		}
	}
	if e := w.f.Insert(0, up(r(1), 0, 0, 1)); e != api.OK {
		t.Fatalf("error %d", int(e))
	}
	if left, e := w.f.Step(1, 9); left != 0 || e != api.OK {
		t.Fatalf("Step: %d, error %d", left, int(e))
	}
	again(w)
	if l, e := w.f.Out(1); e != api.OK || len(l) != api.MaxQueue {
		t.Fatalf("%d came, error %d", len(l), int(e))
	}
}

func TestTurnThatFillsAQueue(t *testing.T) { // P24.4: there is room for one, and more is handed on than the queue takes
	for _, k := range []struct {
		name string
		rest int // that the second node takes ahead of it
		want api.Errno
	}{{"too many", 63, api.ErrMany}, {"just as many", 64, api.OK}} {
		w := watch(t, k.name, planOf(api.MaxRoom, input(num), bucket(0, 0, 64, 1), concat(1)))
		for i := range 1025 {
			w.f.Insert(0, up(r(i), 0, 0, 1))
		}
		if left, e := w.f.Step(1, 2000); left != 2000-1024 || e != api.OK { // there is no room any more
			t.Fatalf("Step: %d, error %d", left, int(e))
		}
		if left, e := w.f.Step(2, k.rest); left != 0 || e != api.OK {
			t.Fatalf("Step: %d, error %d", left, int(e))
		}
		left, e := w.f.Step(1, 1)
		if left != 0 || e != k.want || w.f.Failed() != k.want {
			t.Fatalf("%s: Step: %d, error %d, Failed %d", k.name, left, int(e), int(w.f.Failed()))
		}
		if e != api.OK {
			w.hasFailed(k.want)
		}
	}
}

func TestOutThatIsFull(t *testing.T) { // P24.2: an out takes MaxLog changes, and no more
	w := watch(t, "an input", planOf(1, input(num)))
	for i := range api.MaxLog {
		if e := w.f.Insert(0, up(r(i), i, 0, 1)); e != api.OK {
			t.Fatalf("number %d: error %d", i, int(e))
		}
	}
	if l, _ := w.f.Out(0); len(l) != api.MaxLog || w.f.Failed() != api.OK || !w.f.Quiet() {
		t.Fatalf("%d came, Failed %d", len(l), int(w.f.Failed()))
	}
	if e := w.f.Insert(0, up(r(1), 0, 0, 1)); e != api.ErrMany || w.f.Failed() != api.ErrMany {
		t.Fatalf("error %d, Failed %d", int(e), int(w.f.Failed()))
	}
	w.hasFailed(api.ErrMany)
	if l, _ := w.f.Out(0); len(l) != api.MaxLog {
		t.Fatalf("%d came", len(l))
	}
	for _, k := range []struct {
		name string
		node api.Node
		in   int // of how many changes just MaxLog come
	}{{"a bucket", bucket(0, 0, 64, 1), 1024}, {"a negate", negate(0), api.MaxLog}, {"a join", joins(0, 0, 0), 256}} {
		w := watch(t, k.name, outsAre(planOf(1, input(num), k.node), 1, 1))
		for i := range min(k.in, api.MaxQueue) {
			w.f.Insert(0, up(r(i), 0, 0, 1))
		}
		if left, e := w.f.Step(1, 1<<40); left == 0 || e != api.OK {
			t.Fatalf("%s: Step: %d, error %d", k.name, left, int(e))
		}
		for i := range 2 {
			if l, _ := w.f.Out(i); len(l) != api.MaxLog || w.f.Failed() != api.OK {
				t.Fatalf("%s: %d came, Failed %d", k.name, len(l), int(w.f.Failed()))
			}
		}
		if e := w.f.Insert(0, up(r(1), 0, 0, 1)); e != api.OK {
			t.Fatalf("%s: error %d", k.name, int(e))
		}
		if left, e := w.f.Step(1, 9); left != 0 || e != api.ErrMany || w.f.Failed() != api.ErrMany {
			t.Fatalf("%s: Step: %d, error %d, Failed %d", k.name, left, int(e), int(w.f.Failed()))
		}
		w.hasFailed(api.ErrMany)
		if l, _ := w.f.Out(1); len(l) != api.MaxLog {
			t.Fatalf("%s: %d came", k.name, len(l))
		}
	}
}

func TestTooMuchAheadOfTheOut(t *testing.T) { // P24.2: whoever is no out is not asked how much came through
	f, _ := flow.New(outsAre(planOf(9, input(num), filter(0, number(0)), concat(1)), 2))
	for i := range api.MaxLog + 100 {
		if e := f.Insert(0, up(r(i), 0, 0, 1)); e != api.OK {
			t.Fatalf("number %d: error %d", i, int(e))
		}
		if left, e := f.Step(1, 1); left != 0 || e != api.OK {
			t.Fatalf("Step: %d, error %d", left, int(e))
		}
	}
	if l, e := f.Out(0); len(l) > 0 || e != api.OK || !f.Quiet() {
		t.Fatal(fmt.Sprint(len(l), e))
	}
}

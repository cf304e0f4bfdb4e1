package engine_test

import (
	"errors"
	"fmt"
	"slices"
	"strings"
	"testing"

	"runnel/api"
	"runnel/engine"
	"runnel/fault"
	"runnel/flow"
	"runnel/plan"
	"runnel/sheet"
)

// busyPlan is a plan with nodes of all kinds that have something to keep: an arrangement (3), a hold (4), a join (5), a fold (6); two inputs (0, 1).
func busyPlan() api.Plan {
	return outsAre(planOf(3, input(num, text), input(num, num), negate(0), arrange(2, 1), consolidate(3), joins(3, 1, 1), counts(5, 1)), 6, 0, 4, 5)
}

// busyCommands are commands behind which something waits in queues and in the join, is held, is to do, is to be merged, was polled and is to be polled.
func busyCommands() []api.Cmd {
	var l []api.Cmd
	for i := range 5 {
		l = append(l, insert(0, up(r(i%2, "a"), i, 1, 1)), insert(0, up(r(i%2, "b"), 1, i, 2)), insert(1, up(r(i%2, i), i, i, 1)))
	}
	l = append(l, advance(0, pair(1, 3), pair(3, 2)), advance(1, pair(0, 2), pair(2, 1)), poll(1))
	for round := range 2 {
		for _, at := range []int{2, 3, 4, 5, 5, 5, 5, 6} {
			l = append(l, step(at, 2))
		}
		l = append(l, poll(3), poll(round))
	}
	return append(l, step(5, 6), compact(3, pair(0, 2), pair(1, 1)))
}

func mustFrontier(f *flow.Flow, at int) []api.Time {
	l, e := f.Frontier(at)
	if e != api.OK {
		panic("no such node")
	}
	return l
}

// busy is an engine that has done these.
func busy(t *testing.T, name string) *watched {
	t.Helper()
	w := installed(t, name, busyPlan())
	w.does(busyCommands()...)
	all, _ := w.f.Out(3)
	if waiting, stored := w.f.Load(); waiting == 0 || stored == 0 || w.polled[3] == 0 || len(all) == w.polled[3] {
		t.Fatalf("%s: it is not busy: %d, %d; %d of %d were polled", name, waiting, stored, w.polled[3], len(all))
	}
	return w
}

// goesOn asks that an engine is as it was: what later commands tell is held against the flow beside it, which errors left as it was.
func (w *watched) goesOn() {
	w.t.Helper()
	w.hold("behind the errors")
	for i := range w.p.Outs {
		w.does(poll(i))
	}
	w.isQuiet(false)
	w.does(peek(3, pair(1, 1)), insert(0, up(r(0, "c"), 3, 3, 1)), insert(1, up(r(0, 9), 2, 2, 1)))
	w.settle(2)
	w.together()
	w.moves(0, pair(9, 9))
	w.moves(1, pair(9, 9))
	w.settle(1)
	w.together()
	if w.means(grid(9)) != 4*81 {
		w.fatal("all is closed", "and yet it is not")
	}
}

// noCommands are numbers of none.
func noCommands() []int { return append(noNumbers(api.Cmds), 100, 256, 1<<32+3) }

func TestNoSuchCommand(t *testing.T) { // P25.1: ErrKind, with "?", with no plan, with one, and once the flow has failed
	w := watch(t, "no plan")
	for _, do := range noCommands() {
		w.refuses(api.Cmd{Do: do}, api.ErrKind)
		w.refuses(api.Cmd{Do: do, Fuel: -1, Node: -1, Sheet: bytesOf(busyPlan())}, api.ErrKind)
	}
	w = busy(t, "a plan")
	for _, do := range noCommands() {
		w.refuses(api.Cmd{Do: do}, api.ErrKind)
		w.refuses(api.Cmd{Do: do, Fuel: -1, Node: 99, Front: make([]api.Time, 17)}, api.ErrKind)
	}
	w.goesOn()
	w = installed(t, "failed", planOf(9, input(num), mapped(0, of(api.OpNeg, col(0)))))
	w.puts(0, up(r(low), 0, 0, 1))
	w.fails(step(1, 1), api.ErrOver)
	for _, do := range noCommands() {
		w.refuses(api.Cmd{Do: do}, api.ErrKind)
	}
}

func TestNoPlan(t *testing.T) { // P25.1: ErrNone, whatever else is wrong; ErrNone is no failure
	w := watch(t, "no plan")
	for _, do := range []int{api.CmdInsert, api.CmdAdvance, api.CmdStep, api.CmdCompact, api.CmdPeek, api.CmdPoll} {
		for _, node := range append(noNumbers(1), 0) {
			for _, fuel := range []int{low, -1, 0, 1, high} {
				w.refuses(api.Cmd{Do: do, Node: node, Fuel: fuel}, api.ErrNone)
			}
			w.refuses(api.Cmd{Do: do, Node: node, Front: make([]api.Time, 17), Up: up(nil, -1, -1, 0), Sheet: bytesOf(busyPlan())}, api.ErrNone)
		}
	}
	w.does(install(busyPlan()))
	w.does(busyCommands()...)
	w.goesOn()
}

func TestSheetsThatAreNone(t *testing.T) { // P25.1: sheet.Decode's error, and no plan is installed
	good := bytesOf(busyPlan())
	w := watch(t, "sheets")
	for i := range good {
		w.refuses(api.Cmd{Do: api.CmdInstall, Sheet: good[:i]}, api.ErrForm)
	}
	w.refuses(api.Cmd{Do: api.CmdInstall}, api.ErrForm)
	w.refuses(api.Cmd{Do: api.CmdInstall, Sheet: []byte{}}, api.ErrForm)
	for _, more := range []byte{0, 1, 80, 255} {
		w.refuses(api.Cmd{Do: api.CmdInstall, Sheet: append(slices.Clone(good), more)}, api.ErrForm)
		other := slices.Clone(good)
		other[0] = more + 1
		w.refuses(api.Cmd{Do: api.CmdInstall, Sheet: other}, api.ErrForm)
	}
	w.refuses(api.Cmd{Do: api.CmdInstall, Sheet: make([]byte, api.MaxSheet+1)}, api.ErrForm)
	bad := 0
	for i := range good { // one byte is another one: most are no plan, some one that may not be, some another one
		for _, put := range []byte{0, 1, 2, 127, 128, 255} {
			b := slices.Clone(good)
			b[i] = put
			p, e := sheet.Decode(b)
			if e == api.OK {
				e, _ = plan.Check(p)
			}
			if e == api.OK {
				continue
			}
			bad++
			w.refuses(api.Cmd{Do: api.CmdInstall, Sheet: b}, e)
			w.refuses(poll(0), api.ErrNone)
		}
	}
	if bad < 100 {
		t.Fatalf("only %d were none", bad)
	}
	w.does(api.Cmd{Do: api.CmdInstall, Sheet: good})
	w.does(busyCommands()...)
	w.goesOn()
}

func TestPlansThatMayNotBe(t *testing.T) { // P25.1: flow.New's errors, and no plan is installed; then one that may be is
	good := planOf(9, input(num, text), negate(0))
	with := func(change func(p *api.Plan)) api.Plan {
		p := copiedPlan(good)
		change(&p)
		return p
	}
	node := func(n api.Node) api.Plan { return with(func(p *api.Plan) { p.Nodes[1] = n }) }
	for name, k := range map[string]struct {
		p    api.Plan
		want api.Errno
	}{
		"nothing":               {api.Plan{}, api.ErrArg},
		"no node":               {with(func(p *api.Plan) { p.Nodes = nil }), api.ErrArg},
		"no out":                {with(func(p *api.Plan) { p.Outs = nil }), api.ErrArg},
		"no room":               {with(func(p *api.Plan) { p.Room = 0 }), api.ErrArg},
		"too much room":         {with(func(p *api.Plan) { p.Room = api.MaxRoom + 1 }), api.ErrArg},
		"an out that is none":   {with(func(p *api.Plan) { p.Outs = []int{0, 2} }), api.ErrRange},
		"an out below 0":        {with(func(p *api.Plan) { p.Outs = []int{-1} }), api.ErrRange},
		"a kind that is none":   {node(api.Node{Kind: api.Nodes, Ins: []int{0}}), api.ErrKind},
		"a kind below 0":        {node(api.Node{Kind: -1, Ins: []int{0}}), api.ErrKind},
		"an input with an in":   {node(api.Node{Ins: []int{0}}), api.ErrArg},
		"a negate without":      {node(api.Node{Kind: api.NodeNegate}), api.ErrArg},
		"a concat without":      {node(concat()), api.ErrArg},
		"a join of one":         {node(api.Node{Kind: api.NodeJoin, Ins: []int{0}}), api.ErrArg},
		"an in that is none":    {node(negate(2)), api.ErrRange},
		"its own in":            {node(negate(1)), api.ErrLoop},
		"kinds that are none":   {with(func(p *api.Plan) { p.Nodes[0].Kinds[1] = 2 }), api.ErrKind},
		"a map of nothing":      {node(mapped(0)), api.ErrArg},
		"a map of no column":    {node(mapped(0, col(2))), api.ErrRange},
		"a filter of a text":    {node(filter(0, col(1))), api.ErrType},
		"a project of none":     {node(project(0, 2)), api.ErrRange},
		"a bucket of a text":    {node(bucket(0, 1, 4, 2)), api.ErrType},
		"windows that are none": {node(bucket(0, 0, 0, 2)), api.ErrArg},
		"too many windows":      {node(bucket(0, 0, 65, 1)), api.ErrMany},
		"a key that is none":    {node(arrange(0, 3)), api.ErrRange},
		"a sum of a text":       {node(folds(api.NodeSum, 0, 1, 1)), api.ErrType},
		"a join of other kinds": {with(func(p *api.Plan) { p.Nodes = append(p.Nodes, input(text), joins(0, 2, 1)) }), api.ErrType},
		"a join of too many":    {with(func(p *api.Plan) { p.Nodes = append(p.Nodes, input(make([]int, 15)...), joins(0, 2, 0)) }), api.ErrMany},
		"two faults":            {with(func(p *api.Plan) { p.Nodes[0].Kinds[0] = 7; p.Nodes[1].Ins = []int{1} }), api.ErrLoop},
	} {
		w := watch(t, name)
		w.refuses(install(k.p), k.want)
		for _, c := range []api.Cmd{insert(0, up(r(1, "a"), 0, 0, 1)), step(0, 1), poll(0)} {
			w.refuses(c, api.ErrNone)
		}
		w.refuses(install(k.p), k.want)
		w.does(install(good), insert(0, up(r(1, "a"), 0, 0, 1)), step(1, 1))
		w.polls(0, times(pair(0, 0)), up(r(1, "a"), 0, 0, -1))
		w.refuses(install(k.p), api.ErrTime)
	}
}

func TestFuelBelowNothing(t *testing.T) { // P25.1: ErrArg, ahead of the node's ErrRange
	w := busy(t, "fuel")
	for _, fuel := range []int{low, low + 1, -1 << 32, -2, -1} {
		for at := range w.p.Nodes {
			w.refuses(step(at, fuel), api.ErrArg)
		}
		for _, at := range noNumbers(len(w.p.Nodes)) {
			w.refuses(step(at, fuel), api.ErrArg)
		}
	}
	w.goesOn()
}

func TestNumbersOfNoNode(t *testing.T) { // P25.1: ErrRange of each of flow's calls, and of no out
	w := busy(t, "no node")
	for _, at := range noNumbers(len(w.p.Nodes)) {
		for _, c := range []api.Cmd{insert(at, up(r(1, "a"), 9, 9, 1)), insert(at, up(nil, -1, 9, 0)), advance(at, pair(9, 9)), advance(at, make([]api.Time, 17)...), step(at, 0), step(at, high),
			compact(at, pair(9, 9)), compact(at, make([]api.Time, 17)...), peek(at, pair(0, 0)), peek(at, pair(-1, 0))} {
			w.refuses(c, api.ErrRange)
		}
	}
	for _, i := range append(noNumbers(len(w.p.Outs)), 5, 6) { // 5 and 6 are nodes, not outs
		w.refuses(poll(i), api.ErrRange)
	}
	w.goesOn()
}

func TestNodesOfOtherKinds(t *testing.T) { // P25.1: ErrKind of inserts, advances, compacts and peeks
	w := busy(t, "kinds")
	for at, node := range w.p.Nodes {
		if node.Kind != api.NodeInput {
			w.refuses(insert(at, up(r(1, "a"), 9, 9, 1)), api.ErrKind)
			w.refuses(insert(at, up(nil, -9, 9, 0)), api.ErrKind)
			w.refuses(advance(at, pair(9, 9)), api.ErrKind)
			w.refuses(advance(at, make([]api.Time, 17)...), api.ErrKind)
		}
		if node.Kind != api.NodeArrange {
			w.refuses(compact(at, pair(9, 9)), api.ErrKind)
			w.refuses(compact(at, make([]api.Time, 17)...), api.ErrKind)
			w.refuses(peek(at, pair(0, 0)), api.ErrKind)
			w.refuses(peek(at, pair(-1, 9)), api.ErrKind)
		}
	}
	w.goesOn()
}

func TestInsertsThatMayNotBe(t *testing.T) { // P25.1: every other error of flow.Insert; of two the first
	w := busy(t, "insert")
	for _, k := range []struct {
		u    api.Up
		want api.Errno
	}{
		{up(nil, 9, 9, 1), api.ErrType},
		{up(r(1), 9, 9, 1), api.ErrType},
		{up(r(1, 1), 9, 9, 1), api.ErrType},
		{up(r(1, strings.Repeat("x", api.MaxText+1)), 9, 9, 1), api.ErrType},
		{up(r(1, api.Val{Kind: 2}), 9, 9, 1), api.ErrType},
		{up(slices.Repeat(r(1), 17), 9, 9, 1), api.ErrType},
		{up(r(1, "a"), -1, 9, 1), api.ErrTime},
		{up(r(1, "a"), 9, api.MaxTime+1, 1), api.ErrTime},
		{up(r(1, "a"), 9, 9, 0), api.ErrArg},
		{up(r(1, "a"), 2, 2, 1), api.ErrTime}, // not in advance of (1, 3), (3, 2)
		{up(r(1, 1), -1, 9, 0), api.ErrType},
		{up(r(1, "a"), -1, 9, 0), api.ErrTime},
		{up(r(1, "a"), 2, 2, 0), api.ErrArg},
	} {
		w.refuses(insert(0, k.u), k.want)
	}
	w.goesOn()
}

func TestFrontiersThatMayNotBe(t *testing.T) { // P25.1: every other error of flow.Advance and flow.Compact; of two the first
	w := busy(t, "frontiers")
	for _, k := range []struct {
		l    []api.Time
		want api.Errno
	}{
		{stairs(pair(10, 10), api.MaxGiven+1), api.ErrMany},
		{make([]api.Time, api.MaxGiven+1), api.ErrMany},
		{slices.Repeat(times(pair(-1, 5)), api.MaxGiven+1), api.ErrMany},
		{make([]api.Time, api.MaxGiven), api.ErrForm},
		{times(pair(9, -1)), api.ErrTime},
		{times(pair(api.MaxTime+1, 9)), api.ErrTime},
		{times(pair(9, 0), pair(0, 9)), api.ErrForm},
		{times(pair(9, 9), pair(9, 9)), api.ErrForm},
		{times(pair(0, 0)), api.ErrTime}, // back
		{times(pair(9, 0)), api.ErrTime}, // beside
		{times(pair(0, 1)), api.ErrTime},
	} {
		w.refuses(advance(0, k.l...), k.want)
		w.refuses(compact(3, k.l...), k.want)
	}
	w.goesOn()
}

func TestPeeksThatMayNotBe(t *testing.T) { // P25.1: ErrOpen ahead of ErrCompacted
	w := busy(t, "peeks")
	for _, x := range append(mustFrontier(w.f, 3), pair(-1, 0), pair(0, -1), pair(api.MaxTime+1, 0), pair(low, high), pair(9, 9)) {
		w.refuses(peek(3, x), api.ErrOpen)
	}
	for _, x := range times(pair(0, 0), pair(0, 1)) {
		w.refuses(peek(3, x), api.ErrCompacted)
	}
	w.goesOn()
}

func TestNilEngine(t *testing.T) { // P25.1, P25.2: ErrNil; nil, false, zeros
	var g *engine.Engine
	for _, do := range append(noCommands(), 0, 1, 2, 3, 4, 5, 6) {
		for _, c := range []api.Cmd{{Do: do}, {Do: do, Node: -1, Fuel: -1, Front: make([]api.Time, 17)}, {Do: do, Sheet: bytesOf(busyPlan()), Up: up(r(1, "a"), 0, 0, 1), Fuel: 9}} {
			reply, err := g.Do(c)
			if bad := faultOf(err, nameOf(do), api.ErrNil); bad != "" || !sameReply(reply, api.Reply{}) {
				t.Errorf("Do %d: %v, %s", do, reply, bad)
			}
		}
	}
	if p, ok := g.Plan(); ok || !sheet.Same(p, api.Plan{}) {
		t.Errorf("Plan: %v, %v", p, ok)
	}
	if err := g.Failed(); err != nil {
		t.Errorf("Failed: %v", err)
	}
	if g.Quiet() {
		t.Error("it is quiet")
	}
	if g.Flow() != nil {
		t.Error("there is a flow")
	}
}

// failing is a plan, commands ahead, and the one in which the flow fails.
type failing struct {
	name  string
	p     api.Plan
	ahead []api.Cmd
	last  api.Cmd
	want  api.Errno
}

func put(l ...api.Up) []api.Cmd {
	var cmds []api.Cmd
	for _, u := range l {
		cmds = append(cmds, insert(0, u))
	}
	return cmds
}

func failures() []failing {
	long := strings.Repeat("x", api.MaxText)
	with := func(n api.Node) api.Plan { return outsAre(planOf(9, input(num, num), n), 1, 0) }
	closed := advance(0, pair(1, 0))
	return []failing{
		{"a map's sum", with(mapped(0, of(api.OpAdd, col(0), col(1)))), put(up(r(1, 2), 0, 0, 1), up(r(high, 1), 0, 0, 1)), step(1, 5), api.ErrOver},
		{"a map's product", with(mapped(0, of(api.OpMul, col(0), col(1)))), put(up(r(1, 2), 0, 0, 1), up(r(high, 2), 0, 0, 1)), step(1, 5), api.ErrOver},
		{"a map's text", outsAre(planOf(9, input(text), mapped(0, of(api.OpCat, col(0), col(0)))), 1, 0), put(up(r("a"), 0, 0, 1), up(r(long), 0, 0, 1)), step(1, 5), api.ErrLong},
		{"a filter's product", with(filter(0, of(api.OpMul, col(0), col(1)))), put(up(r(low, -1), 0, 0, 1)), step(1, 1), api.ErrOver},
		{"a window", with(bucket(0, 1, 2, 2)), put(up(r(0, 0), 0, 0, 1), up(r(0, api.MaxPoint+1), 0, 0, 1)), step(1, 5), api.ErrOver},
		{"a negation", with(negate(0)), put(up(r(0, 0), 0, 0, high), up(r(0, 0), 0, 0, low)), step(1, 2), api.ErrOver},
		{"a hold's sum", with(consolidate(0)), put(up(r(0, 0), 0, 0, high), up(r(0, 0), 0, 0, 1)), step(1, 2), api.ErrOver},
		{"a join's product", with(joins(0, 0, 1)), put(up(r(0, 0), 0, 0, 1<<32)), step(1, 2), api.ErrOver},
		{"a fold's count", with(counts(0, 0)), append(put(up(r(0, 0), 0, 0, high), up(r(1, 0), 0, 0, 1)), closed), step(1, 3), api.ErrOver},
		{"a fold's sum", with(folds(api.NodeSum, 0, 0, 1)), append(put(up(r(0, high), 0, 0, 2)), closed), step(1, 2), api.ErrOver},
		{"an arrangement's work", with(arrange(0, 1)), append(put(up(r(0, 0), 0, 0, low), up(r(0, 0), 0, 0, -1)), step(1, 1), step(1, 1)), step(1, 1), api.ErrOver},
	}
}

func TestEnginesThatFail(t *testing.T) { // P25.1 to P25.3: the command's error is the one by which the flow fails, alone; behind it both
	for _, k := range failures() {
		for _, isPolled := range []bool{false, true} {
			w := installed(t, k.name, k.p)
			w.does(k.ahead...)
			if isPolled {
				w.does(poll(0), poll(1))
			}
			w.fails(k.last, k.want)
			w.hasFailed(k.want)
		}
	}
}

// hasFailed asks an engine whose flow has failed, again and again: nothing comes any more, and nothing changes.
func (w *watched) hasFailed(e api.Errno) {
	w.t.Helper()
	installs := []api.Cmd{install(w.p), install(planOf(1, input(num))), {Do: api.CmdInstall}, {Do: api.CmdInstall, Sheet: []byte("no plan")}}
	for range 2 {
		for _, at := range append(noNumbers(len(w.p.Nodes)), 0, 1) {
			for _, c := range []api.Cmd{insert(at, up(r(1, 1), 5, 5, 1)), insert(at, up(nil, -5, 5, 0)), advance(at, pair(9, 9)), advance(at), advance(at, make([]api.Time, 17)...), step(at, 0), step(at, 1), step(at, high), step(at, -1), step(at, low),
				compact(at, pair(9, 9)), compact(at, make([]api.Time, 17)...), peek(at, pair(0, 0)), peek(at, pair(-1, 0)), poll(at)} {
				w.refuses(c, api.ErrFailed, e)
			}
		}
		for _, c := range installs {
			w.refuses(c, api.ErrTime)
		}
		if w.g.Quiet() {
			w.fatal("failed", "it is quiet")
		}
	}
	if bad := failedFault(w.g.Failed(), e); bad != "" {
		w.fatal("failed", "%s", bad)
	}
	if w.g.Flow() == nil || w.g.Flow().Failed() != e {
		w.fatal("failed", "its flow's Failed is %d", int(w.g.Flow().Failed()))
	}
}

func TestWhatWasNotPolled(t *testing.T) { // P25.1, P25.3: is told no more; what was polled ahead of it was all that came until then
	w := installed(t, "not polled", outsAre(planOf(9, input(num), mapped(0, of(api.OpNeg, col(0)))), 1, 0))
	w.puts(0, up(r(1), 0, 0, 1), up(r(2), 0, 0, 1), up(r(low), 0, 0, 1))
	w.leaves(1, 1, 0)
	w.polls(0, times(pair(0, 0)), up(r(-1), 0, 0, 1))
	w.leaves(1, 1, 0)
	w.fails(step(1, 1), api.ErrOver)
	w.refuses(poll(0), api.ErrFailed, api.ErrOver)
	w.refuses(poll(1), api.ErrFailed, api.ErrOver)
	if all, e := w.g.Flow().Out(0); e != api.OK || !slices.EqualFunc(all, ups(up(r(-1), 0, 0, 1), up(r(-2), 0, 0, 1)), same) {
		t.Fatalf("%v, error %d", all, int(e))
	}
}

func TestJoinedErrors(t *testing.T) { // P25.1, P25.2: just two numbers are joined, in this order, in one Fail
	w := installed(t, "joined", planOf(9, input(num), mapped(0, of(api.OpNeg, col(0)))))
	w.puts(0, up(r(low), 0, 0, 1))
	w.fails(step(1, 1), api.ErrOver)
	parts := func(err error) []error {
		several, ok := err.(interface{ Unwrap() []error })
		if !ok {
			t.Fatalf("%#v is not joined", err)
		}
		return several.Unwrap()
	}
	want := []error{api.ErrFailed, api.ErrOver}
	if got := parts(w.g.Failed()); !slices.Equal(got, want) {
		t.Fatalf("Failed: %v", got)
	}
	for do := api.CmdInsert; do < api.Cmds; do++ {
		_, err := w.g.Do(api.Cmd{Do: do})
		var f api.Fail
		if !errors.As(err, &f) || f.Op != engine.Name(do) || !slices.Equal(parts(f.Err), want) {
			t.Fatalf("%s: %#v", engine.Name(do), err)
		}
		clear(parts(f.Err)) // what one error joins is not another one's
		clear(parts(w.g.Failed()))
	}
	if bad := failedFault(w.g.Failed(), api.ErrOver); bad != "" {
		t.Fatal(bad)
	}
	if _, err := w.g.Do(poll(0)); !slices.Equal(fault.All(err), []api.Errno{api.ErrFailed, api.ErrOver}) {
		t.Fatalf("%v", fault.All(err))
	}
}

func TestInsertThatFails(t *testing.T) { // P25.1: by a queue that is full, by an out that is full
	for name, p := range map[string]api.Plan{"a queue": planOf(api.MaxRoom, input(num), negate(0)), "an out": planOf(1, input(num))} {
		g := engine.New()
		g.Do(install(p))
		for i := range api.MaxQueue {
			if _, err := g.Do(insert(0, up(r(i), 0, 0, 1))); err != nil {
				t.Fatalf("%s: number %d: error %v", name, i, fault.All(err))
			}
		}
		if name == "an out" {
			if reply, err := g.Do(poll(0)); err != nil || len(reply.Ups) != api.MaxLog {
				t.Fatalf("%s: %d, error %v", name, len(reply.Ups), fault.All(err))
			}
		}
		if err := g.Failed(); err != nil {
			t.Fatalf("%s: Failed %v", name, fault.All(err))
		}
		reply, err := g.Do(insert(0, up(r(7), 0, 0, 1)))
		if bad := faultOf(err, "insert", api.ErrMany); bad != "" || !sameReply(reply, api.Reply{}) {
			t.Fatalf("%s: %v, %s", name, reply, bad)
		}
		for do := api.CmdInsert; do < api.Cmds; do++ {
			reply, err := g.Do(api.Cmd{Do: do, Up: up(r(7), 0, 0, 1)})
			if bad := faultOf(err, engine.Name(do), api.ErrFailed, api.ErrMany); bad != "" || !sameReply(reply, api.Reply{}) {
				t.Fatalf("%s: %v, %s", name, reply, bad)
			}
		}
		if bad := failedFault(g.Failed(), api.ErrMany); bad != "" || g.Quiet() {
			t.Fatalf("%s: %s, Quiet %v", name, bad, g.Quiet())
		}
		if _, err := g.Do(install(p)); fault.Code(err) != api.ErrTime {
			t.Fatalf("%s: error %v", name, fault.All(err))
		}
		if q, ok := g.Plan(); !ok || !sheet.Same(p, q) {
			t.Fatalf("%s: Plan %v, %v", name, q, ok)
		}
	}
}

func TestFailuresAtRandom(t *testing.T) { // P25.1 to P25.3: of numbers that are too great soon or late
	failed, closed := map[string]int{}, 0
	for i := range 100 {
		x := chance(3000 + i)
		p := drawPlan(&x, 3+x.below(9))
		w := installed(t, fmt.Sprintf("plan %d, %+v", i, p), p)
		for call := 0; call < 100 && w.f.Failed() == api.OK; call++ {
			c := w.drawCmd(&x)
			if call > 30 && x.below(3) == 0 {
				c = step(x.below(len(p.Nodes)), 20)
			}
			if call > 30 && c.Do == api.CmdInsert {
				c.Up.Diff = anyOf(&x, high, low, 1<<62, -1<<62, 1<<40)
				for j := range c.Up.Row {
					if x.below(2) == 0 {
						c.Up.Row[j].Int = anyOf(&x, low, high, 1<<62)
					}
				}
			}
			w.do(c)
			w.hold(fmt.Sprint("command ", call))
			if w.f.Failed() != api.OK {
				failed[engine.Name(c.Do)]++
			}
		}
		closed += w.means(grid(8))
		if e := w.f.Failed(); e != api.OK {
			w.hasFailed(e)
		}
	}
	if failed["step"] < 20 || closed < 500 {
		t.Errorf("%v failed, %d were closed", failed, closed)
	}
}

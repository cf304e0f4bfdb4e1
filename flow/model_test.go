package flow_test

import (
	"fmt"
	"slices"
	"testing"

	"runnel/api"
	"runnel/batch"
	"runnel/deno"
	"runnel/flow"
	"runnel/fold"
	"runnel/front"
	"runnel/hold"
	"runnel/join"
	"runnel/linear"
	"runnel/plan"
	"runnel/spine"
	"runnel/trace"
	"runnel/zset"
)

// model is what the chapter says of a flow, in the plainest way: queues are lists, frontiers are reckoned from all times there are, each held against each. What a node has besides is that of the layers below.
type model struct {
	p        api.Plan
	fronts   map[int][]api.Time // of inputs
	queues   [][][]api.Up       // node by node, one for each in
	holds    map[int]*hold.Hold
	traces   map[int]*trace.Trace
	joins    map[int]*join.Join
	folds    map[int]*fold.Fold
	outs     [][]api.Up
	inserted map[int][]api.Up // into inputs
	failed   api.Errno
}

func newModel(p api.Plan) *model {
	p = copiedPlan(p)
	m := &model{p: p, fronts: map[int][]api.Time{}, holds: map[int]*hold.Hold{}, traces: map[int]*trace.Trace{}, joins: map[int]*join.Join{}, folds: map[int]*fold.Fold{}, inserted: map[int][]api.Up{}}
	m.queues, m.outs = make([][][]api.Up, len(p.Nodes)), make([][]api.Up, len(p.Outs))
	kinds, _ := plan.Kinds(p)
	for at, n := range p.Nodes {
		m.queues[at] = make([][]api.Up, len(n.Ins))
		switch n.Kind {
		case api.NodeInput:
			m.fronts[at] = []api.Time{{}}
		case api.NodeConsolidate:
			m.holds[at] = hold.New()
		case api.NodeArrange:
			m.traces[at], _ = trace.New(n.Key)
			m.traces[at].Open([]api.Time{{}})
		case api.NodeJoin:
			m.joins[at], _ = join.New(n.Key)
		default:
			if kind, ok := plan.Group(n); ok {
				m.folds[at], _ = fold.New(kind, n.Key, n.N, len(kinds[n.Ins[0]]))
			}
		}
	}
	return m
}

// copiedPlan is the plan in lists of its own.
func copiedPlan(p api.Plan) api.Plan {
	p.Outs, p.Nodes = slices.Clone(p.Outs), slices.Clone(p.Nodes)
	for i := range p.Nodes {
		n := &p.Nodes[i]
		n.Ins, n.Kinds, n.Cols, n.Exprs = slices.Clone(n.Ins), slices.Clone(n.Kinds), slices.Clone(n.Cols), slices.Clone(n.Exprs)
		for j := range n.Exprs {
			n.Exprs[j] = slices.Clone(n.Exprs[j])
		}
	}
	return p
}

// node is the error of a call that takes a node.
func (m *model) node(at int) api.Errno {
	switch {
	case m.failed != api.OK:
		return m.failed
	case at < 0 || at >= len(m.p.Nodes):
		return api.ErrRange
	}
	return api.OK
}

// frontier by what stands in all the queues that lead there.
func (m *model) frontier(at int) []api.Time { return m.frontierBeside(at, map[int][]api.Time{}) }

// frontierBeside is a frontier, where some are known already.
func (m *model) frontierBeside(at int, known map[int][]api.Time) []api.Time {
	if m.p.Nodes[at].Kind == api.NodeInput {
		return m.fronts[at]
	}
	if l, is := known[at]; is {
		return l
	}
	var all []api.Time
	for i, in := range m.p.Nodes[at].Ins {
		all = append(append(all, m.frontierBeside(in, known)...), timesOf(m.queues[at][i])...)
	}
	all = append(all, timesOf(m.holds[at].Ups())...)
	all = append(all, m.joins[at].Lower()...)
	all = append(all, m.folds[at].Lower()...)
	known[at] = least(all)
	return known[at]
}

func timesOf(l []api.Up) []api.Time {
	var all []api.Time
	for _, u := range l {
		all = append(all, u.Time)
	}
	return all
}

// feeds are the queues of a node's users: user and in.
func (m *model) feeds(at int) [][2]int {
	var l [][2]int
	for user, n := range m.p.Nodes {
		for i, in := range n.Ins {
			if in == at {
				l = append(l, [2]int{user, i})
			}
		}
	}
	return l
}

func (m *model) handOn(at int, l ...api.Up) api.Errno {
	for _, u := range l {
		for _, to := range m.feeds(at) {
			q := &m.queues[to[0]][to[1]]
			if len(*q) == api.MaxQueue {
				return api.ErrMany
			}
			*q = append(*q, copied(u))
		}
		for i, out := range m.p.Outs {
			if out != at {
				continue
			}
			if len(m.outs[i]) == api.MaxLog {
				return api.ErrMany
			}
			m.outs[i] = append(m.outs[i], copied(u))
		}
	}
	return api.OK
}

func (m *model) insert(at int, u api.Up) api.Errno {
	if e := m.node(at); e != api.OK {
		return e
	}
	if m.p.Nodes[at].Kind != api.NodeInput {
		return api.ErrKind
	}
	if e := deno.Fits(m.p.Nodes[at].Kinds, ups(u)); e != api.OK {
		return e
	}
	if !advanced(m.fronts[at], u.Time) {
		return api.ErrTime
	}
	m.failed = m.handOn(at, u)
	if m.failed == api.OK {
		m.inserted[at] = append(m.inserted[at], copied(u))
	}
	return m.failed
}

func (m *model) advance(at int, l []api.Time) api.Errno {
	if e := m.node(at); e != api.OK {
		return e
	}
	switch {
	case m.p.Nodes[at].Kind != api.NodeInput:
		return api.ErrKind
	case len(l) > api.MaxGiven:
		return api.ErrMany
	case slices.ContainsFunc(l, func(t api.Time) bool { return !isTime(t) }):
		return api.ErrTime
	case !slices.Equal(least(l), l):
		return api.ErrForm
	case slices.ContainsFunc(l, func(t api.Time) bool { return !advanced(m.fronts[at], t) }):
		return api.ErrTime
	}
	m.fronts[at] = slices.Clone(l)
	return api.OK
}

func (m *model) compact(at int, l []api.Time) api.Errno {
	if e := m.node(at); e != api.OK {
		return e
	}
	switch {
	case m.traces[at] == nil:
		return api.ErrKind
	case len(l) > api.MaxGiven:
		return api.ErrMany
	}
	return m.traces[at].Allow(0, l)
}

func (m *model) peek(at int, t api.Time) ([]api.Count, api.Errno) {
	if e := m.node(at); e != api.OK {
		return nil, e
	}
	switch {
	case m.traces[at] == nil:
		return nil, api.ErrKind
	case !isTime(t) || advanced(m.frontier(at), t):
		return nil, api.ErrOpen
	}
	return m.traces[at].Peek(t)
}

// follow advances a node's join or fold.
func (m *model) follow(at int) {
	for i, in := range m.p.Nodes[at].Ins {
		to := least(append(timesOf(m.queues[at][i]), m.frontier(in)...))
		if len(to) > api.MaxFront {
			continue
		}
		if j := m.joins[at]; j != nil {
			j.Advance(i, to)
		}
		if f := m.folds[at]; f != nil {
			f.Advance(to)
		}
	}
}

// isOpen: may a node hand on?
func (m *model) isOpen(at int) bool {
	for _, to := range m.feeds(at) {
		if len(m.queues[to[0]][to[1]]) >= m.p.Room {
			return false
		}
	}
	return true
}

// pop takes the first change of the first queue that has one.
func (m *model) pop(at int) (in int, u api.Up, some bool) {
	for in, q := range m.queues[at] {
		if len(q) > 0 {
			m.queues[at][in] = q[1:]
			return in, q[0], true
		}
	}
	return 0, api.Up{}, false
}

// turn does one, if there is one.
func (m *model) turn(at int) (did bool, e api.Errno) {
	if !m.isOpen(at) {
		return false, api.OK
	}
	if j := m.joins[at]; j != nil && j.Len() > 0 {
		u, _ := j.Next()
		return true, m.handOn(at, u)
	}
	n := m.p.Nodes[at]
	if in, u, some := m.pop(at); some {
		switch {
		case n.Kind == api.NodeConsolidate:
			return true, m.holds[at].Add(u)
		case n.Kind == api.NodeArrange:
			if e := m.traces[at].Insert(ups(u)); e != api.OK {
				return true, e
			}
			return true, m.handOn(at, u)
		case n.Kind == api.NodeJoin:
			return true, m.joins[at].Accept(in, u)
		case m.folds[at] != nil:
			return true, m.folds[at].Accept(u)
		}
		l, e := linear.Do(n, u)
		if e != api.OK {
			return true, e
		}
		return true, m.handOn(at, l...)
	}
	switch {
	case n.Kind == api.NodeConsolidate:
		u, some := m.holds[at].Next(m.frontier(n.Ins[0]))
		if some {
			return true, m.handOn(at, u)
		}
	case m.folds[at] != nil:
		l, did, e := m.folds[at].Step()
		if e != api.OK {
			return true, e
		}
		return did, m.handOn(at, l...)
	}
	return false, api.OK
}

func (m *model) work(at, fuel int) (left int, e api.Errno) {
	switch {
	case m.traces[at] != nil:
		return m.traces[at].Work(fuel)
	case m.joins[at] != nil:
		return m.joins[at].Work(fuel)
	case m.folds[at] != nil:
		return m.folds[at].Work(fuel)
	}
	return max(fuel, 0), api.OK
}

func (m *model) step(at, fuel int) (left int, e api.Errno) {
	if e := m.node(at); e != api.OK {
		return 0, e
	}
	for fuel > 0 {
		m.follow(at)
		did, e := m.turn(at)
		if e != api.OK {
			m.failed = e
			return 0, e
		}
		if !did {
			break
		}
		fuel--
	}
	m.follow(at)
	left, m.failed = m.work(at, fuel)
	return left, m.failed
}

func (m *model) spines(at int) []*spine.Spine {
	switch {
	case m.traces[at] != nil:
		return []*spine.Spine{m.traces[at].Spine()}
	case m.joins[at] != nil:
		return []*spine.Spine{m.joins[at].Side(0), m.joins[at].Side(1)}
	case m.folds[at] != nil:
		return []*spine.Spine{m.folds[at].Side(0), m.folds[at].Side(1)}
	}
	return nil
}

func (m *model) load() (waiting, stored int) {
	for at := range m.p.Nodes {
		for _, q := range m.queues[at] {
			waiting += len(q)
		}
		waiting += m.joins[at].Len()
		stored += m.holds[at].Len()
		for _, s := range m.spines(at) {
			stored += len(s.Ups())
		}
	}
	return waiting, stored
}

// quiet: something that waits is somebody's turn, for the last of those whose users have no room has one.
func (m *model) quiet() bool {
	if m.failed != api.OK {
		return false
	}
	quiet := true
	for at, n := range m.p.Nodes {
		m.follow(at)
		if h := m.holds[at]; h != nil {
			to := m.frontier(n.Ins[0])
			quiet = quiet && !slices.ContainsFunc(h.Ups(), func(u api.Up) bool { return !advanced(to, u.Time) })
		}
		quiet = quiet && !m.folds[at].Due()
		for _, s := range m.spines(at) {
			quiet = quiet && s.Still()
		}
	}
	waiting, _ := m.load()
	return quiet && waiting == 0
}

// lists is what was inserted, as deno asks for it.
func (m *model) lists() [][]api.Up {
	var l [][]api.Up
	for _, at := range plan.Inputs(m.p) {
		l = append(l, m.inserted[at])
	}
	return l
}

// watched is a flow, and a model that is handed the same calls.
type watched struct {
	t     *testing.T
	name  string
	f     *flow.Flow
	m     *model
	told  [][]api.Time       // the frontiers of all nodes, as they were told last, ahead of a failure
	came  []int              // how many changes had come to each out then
	calls []func(*flow.Flow) // all that was done
}

func watch(t *testing.T, name string, p api.Plan) *watched {
	t.Helper()
	f, e := flow.New(p)
	if e != api.OK || f == nil {
		t.Fatalf("%s: New: flow %v, error %d", name, f != nil, int(e))
	}
	w := &watched{t: t, name: name, f: f, m: newModel(p), told: make([][]api.Time, len(p.Nodes)), came: make([]int, len(p.Outs))}
	for at := range p.Nodes {
		w.told[at] = times(pair(0, 0))
	}
	w.hold("new")
	return w
}

// again is another flow, which is brought to where this one is by the same calls.
func (w *watched) again() *flow.Flow {
	f, _ := flow.New(w.m.p)
	for _, call := range w.calls {
		call(f)
	}
	return f
}

func (w *watched) fatal(step, form string, l ...any) {
	w.t.Helper()
	w.t.Fatalf("%s, %s: %s", w.name, step, fmt.Sprintf(form, l...))
}

// hold asks all that may be asked and changes nothing.
func (w *watched) hold(step string) {
	w.t.Helper()
	if got := w.f.Failed(); got != w.m.failed {
		w.fatal(step, "Failed is %d, want %d", int(got), int(w.m.failed))
	}
	for i := range w.m.p.Outs {
		w.holdOut(step, i)
	}
	if w.m.failed != api.OK {
		w.ends(step)
		return
	}
	for at := range w.m.p.Nodes {
		got, e := w.f.Frontier(at)
		if want := w.m.frontier(at); e != api.OK || !slices.Equal(got, want) {
			w.fatal(step, "Frontier(%d) is %s, error %d, want %s", at, told(got), int(e), told(want))
		}
		if !front.LessEq(w.told[at], got) {
			w.fatal(step, "Frontier(%d) goes back from %v to %v", at, w.told[at], got)
		}
		w.told[at] = got
		w.holdSpines(step, at)
	}
	for i := range w.m.p.Outs {
		w.came[i] = len(w.m.outs[i])
	}
	waiting, stored := w.f.Load()
	if wantWaiting, wantStored := w.m.load(); waiting != wantWaiting || stored != wantStored {
		w.fatal(step, "Load is %d, %d, want %d, %d", waiting, stored, wantWaiting, wantStored)
	}
}

// ends asks of a flow that has failed that its calls end.
func (w *watched) ends(step string) {
	w.t.Helper()
	for at := range w.m.p.Nodes {
		if got, e := w.f.Frontier(at); e != api.OK || !front.LessEq(w.told[at], got) {
			w.fatal(step, "Frontier(%d) is %v, error %d; it was %v", at, got, int(e), w.told[at])
		}
		w.f.Spines(at)
	}
	w.f.Load()
	if w.f.Quiet() {
		w.fatal(step, "it has failed, and is quiet")
	}
}

// holdOut asks what came to an out; what is new is in advance of the frontier that was told ahead of it.
func (w *watched) holdOut(step string, i int) {
	w.t.Helper()
	got, e := w.f.Out(i)
	if e != api.OK || !slices.EqualFunc(got, w.m.outs[i], same) {
		w.fatal(step, "Out(%d) is %s, error %d, want %s", i, told(got), int(e), told(w.m.outs[i]))
	}
	before := w.told[w.m.p.Outs[i]]
	for _, u := range got[w.came[i]:] {
		if !advanced(before, u.Time) {
			w.fatal(step, "Out(%d): %v came behind the frontier %v", i, u, before)
		}
	}
}

// holdSpines asks whether a node's spines are as they must be.
func (w *watched) holdSpines(step string, at int) {
	w.t.Helper()
	got, want := w.f.Spines(at), w.m.spines(at)
	if len(got) != len(want) {
		w.fatal(step, "%d spines of node %d, want %d", len(got), at, len(want))
	}
	for i, s := range got {
		if !slices.Equal(s.Since(), want[i].Since()) || s.Total() != want[i].Total() || s.Still() != want[i].Still() {
			w.fatal(step, "spine %d of node %d: Since %v, Total %d, Still %v; want %v, %d, %v", i, at, s.Since(), s.Total(), s.Still(), want[i].Since(), want[i].Total(), want[i].Still())
		}
		if !slices.EqualFunc(s.Batches(), want[i].Batches(), sameBatch) {
			w.fatal(step, "spine %d of node %d has %s, want %s", i, at, told(s.Ups()), told(want[i].Ups()))
		}
		if bound := mostBatches(s.Total()); len(s.Batches()) > bound {
			w.fatal(step, "spine %d of node %d has %d batches, of %d changes", i, at, len(s.Batches()), s.Total())
		}
	}
}

func sameBatch(a, b *batch.Batch) bool {
	return a.Key() == b.Key() && a.Weight() == b.Weight() && slices.Equal(a.Since(), b.Since()) && slices.EqualFunc(a.Ups(), b.Ups(), same)
}

// mostBatches is what chapter 12 tells of so many changes.
func mostBatches(total int) int {
	log := 0
	for ; total > 1; total /= 2 {
		log++
	}
	return 2*log + 2
}

// insert, advance, step, compact, peek and quiet do a call, hold what it answers against the model's answer, and tell it.
func (w *watched) insert(at int, u api.Up) api.Errno {
	w.t.Helper()
	u = copied(u)
	e, want := w.f.Insert(at, u), w.m.insert(at, u)
	if e != want {
		w.fatal(fmt.Sprintf("Insert(%d, %s)", at, told(u)), "error %d, want %d", int(e), int(want))
	}
	w.calls = append(w.calls, func(f *flow.Flow) { f.Insert(at, u) })
	return e
}

func (w *watched) advance(at int, l []api.Time) api.Errno {
	w.t.Helper()
	l = slices.Clone(l)
	e, want := w.f.Advance(at, l), w.m.advance(at, l)
	if e != want {
		w.fatal(fmt.Sprintf("Advance(%d, %s)", at, told(l)), "error %d, want %d", int(e), int(want))
	}
	w.calls = append(w.calls, func(f *flow.Flow) { f.Advance(at, l) })
	return e
}

func (w *watched) step(at, fuel int) (left int, e api.Errno) {
	w.t.Helper()
	left, e = w.f.Step(at, fuel)
	want, wantErr := w.m.step(at, fuel)
	if left != want || e != wantErr {
		w.fatal(fmt.Sprintf("Step(%d, %d)", at, fuel), "%d, error %d, want %d, %d", left, int(e), want, int(wantErr))
	}
	w.calls = append(w.calls, func(f *flow.Flow) { f.Step(at, fuel) })
	return left, e
}

func (w *watched) compact(at int, l []api.Time) api.Errno {
	w.t.Helper()
	l = slices.Clone(l)
	e, want := w.f.Compact(at, l), w.m.compact(at, l)
	if e != want {
		w.fatal(fmt.Sprintf("Compact(%d, %s)", at, told(l)), "error %d, want %d", int(e), int(want))
	}
	w.calls = append(w.calls, func(f *flow.Flow) { f.Compact(at, l) })
	return e
}

// peek holds what is told against what the plan means, too.
func (w *watched) peek(at int, t api.Time) ([]api.Count, api.Errno) {
	w.t.Helper()
	step := fmt.Sprintf("Peek(%d, %v)", at, t)
	got, e := w.f.Peek(at, t)
	want, wantErr := w.m.peek(at, t)
	if !slices.EqualFunc(got, want, sameCount) || e != wantErr {
		w.fatal(step, "%s, error %d, want %s, %d", told(got), int(e), told(want), int(wantErr))
	}
	if e == api.OK {
		p := w.m.p
		p.Outs = []int{at}
		if means, fault := deno.At(p, w.m.lists(), t); fault == api.OK && !slices.EqualFunc(got, means[0], sameCount) {
			w.fatal(step, "%s, the plan means %s", told(got), told(means[0]))
		}
	}
	w.calls = append(w.calls, func(f *flow.Flow) { f.Peek(at, t) })
	return got, e
}

func (w *watched) quiet() bool {
	w.t.Helper()
	got, want := w.f.Quiet(), w.m.quiet()
	if got != want {
		w.fatal("Quiet", "%v, want %v", got, want)
	}
	w.calls = append(w.calls, func(f *flow.Flow) { f.Quiet() })
	return got
}

// means holds what came to the outs at the times that are closed, by the frontiers that were told last, against what the plan means; how many times were closed.
func (w *watched) means(l []api.Time) (closed int) {
	w.t.Helper()
	for _, t := range l {
		if !slices.ContainsFunc(w.m.p.Outs, func(out int) bool { return !advanced(w.told[out], t) }) {
			continue
		}
		want, e := deno.At(w.m.p, w.m.lists(), t)
		if e != api.OK {
			continue
		}
		for i, out := range w.m.p.Outs {
			if advanced(w.told[out], t) {
				continue
			}
			list, _ := w.f.Out(i)
			got, e := zset.At(list, t)
			if e != api.OK || !slices.EqualFunc(got, want[i], sameCount) {
				w.fatal(fmt.Sprint("at ", t), "out %d: %s, error %d; the plan means %s", i, told(got), int(e), told(want[i]))
			}
			closed++
		}
	}
	return closed
}

// settle gives each node its turn, again and again, until all is quiet.
func (w *watched) settle(fuel int) {
	w.t.Helper()
	for round := 0; !w.quiet(); round++ {
		for at := range w.m.p.Nodes {
			if _, e := w.step(at, fuel); e != api.OK {
				w.fatal("settle", "error %d", int(e))
			}
			if round < 20 {
				w.hold(fmt.Sprintf("round %d, Step(%d, %d)", round, at, fuel))
			}
		}
		if round > 100000 {
			w.fatal("settle", "it is never quiet")
		}
	}
	w.hold("settled")
	w.isSettled()
}

// isSettled asks what follows when all is quiet: nothing waits, frontiers are those of the inputs, spines have one batch at most.
func (w *watched) isSettled() {
	w.t.Helper()
	if waiting, _ := w.f.Load(); waiting != 0 {
		w.fatal("quiet", "%d wait", waiting)
	}
	for at := range w.m.p.Nodes {
		got, _ := w.f.Frontier(at)
		if want := least(w.m.inputsOf(at)); !slices.Equal(got, want) {
			w.fatal("quiet", "Frontier(%d) is %v, those of its inputs are %v", at, got, want)
		}
		for i, s := range w.f.Spines(at) {
			if len(s.Batches()) > 1 {
				w.fatal("quiet", "spine %d of node %d has %d batches", i, at, len(s.Batches()))
			}
		}
		left, e := w.f.Step(at, 1000)
		if left != 1000 || e != api.OK {
			w.fatal("quiet", "Step(%d, 1000): %d, error %d", at, left, int(e))
		}
	}
	w.hold("steps of a quiet one")
}

// inputsOf are the times of the frontiers of all inputs that lead to a node.
func (m *model) inputsOf(at int) []api.Time {
	all := slices.Clone(m.fronts[at])
	for _, in := range m.p.Nodes[at].Ins {
		all = append(all, m.inputsOf(in)...)
	}
	return all
}

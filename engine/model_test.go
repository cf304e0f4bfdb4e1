package engine_test

import (
	"errors"
	"fmt"
	"slices"
	"testing"

	"runnel/api"
	"runnel/batch"
	"runnel/deno"
	"runnel/engine"
	"runnel/fault"
	"runnel/flow"
	"runnel/plan"
	"runnel/sheet"
	"runnel/zset"
)

// allErrors are the numbers that there are.
var allErrors = []api.Errno{api.OK, api.ErrArg, api.ErrLong, api.ErrMany, api.ErrNone, api.ErrNil, api.ErrForm, api.ErrTime, api.ErrKind, api.ErrRange, api.ErrOver, api.ErrType, api.ErrCompacted, api.ErrLoop, api.ErrOpen, api.ErrFailed}

// faultOf is what is wrong with an error of a command: it must have just these numbers, in order, and one Op; "" is nothing.
func faultOf(err error, op string, numbers ...api.Errno) string {
	if len(numbers) == 0 {
		if err != nil {
			return fmt.Sprintf("error %v in %q, want none", fault.All(err), fault.Ops(err))
		}
		return ""
	}
	var outermost api.Fail
	switch {
	case err == nil:
		return fmt.Sprintf("no error, want %v", numbers)
	case !slices.Equal(fault.Ops(err), []string{op}):
		return fmt.Sprintf("Ops %q, want %q", fault.Ops(err), op)
	case !errors.As(err, &outermost) || outermost.Op != op || outermost.Err == nil:
		return fmt.Sprintf("as api.Fail it is %v", outermost)
	case len(numbers) == 1 && err != fault.Wrap(op, fault.New(numbers[0])):
		return fmt.Sprintf("it is %#v, want just %d in %q", err, int(numbers[0]), op)
	}
	return numbersFault(err, numbers...)
}

// numbersFault is what is wrong with an error's numbers.
func numbersFault(err error, numbers ...api.Errno) string {
	if got := fault.All(err); !slices.Equal(got, numbers) {
		return fmt.Sprintf("numbers %v, want %v", got, numbers)
	}
	if got := fault.Code(err); got != numbers[0] {
		return fmt.Sprintf("Code %d, want %d", int(got), int(numbers[0]))
	}
	for _, e := range allErrors {
		if want := slices.Contains(numbers, e); errors.Is(err, e) != want || fault.Is(err, e) != want {
			return fmt.Sprintf("is it %d? %v, want %v", int(e), errors.Is(err, e), want)
		}
	}
	return ""
}

// failedFault is what is wrong with what Failed tells of an engine whose flow has failed by a number, or has not (OK).
func failedFault(err error, e api.Errno) string {
	if e == api.OK {
		if err != nil {
			return fmt.Sprintf("Failed is %v", fault.All(err))
		}
		return ""
	}
	if err == nil {
		return fmt.Sprintf("Failed is nil, want %d", int(e))
	}
	if ops := fault.Ops(err); len(ops) > 0 {
		return fmt.Sprintf("Failed has the Ops %q", ops)
	}
	if bad := numbersFault(err, api.ErrFailed, e); bad != "" {
		return "Failed: " + bad
	}
	return ""
}

// watched is an engine, and beside it a flow of the same plan on which the same calls are made.
type watched struct {
	t        *testing.T
	name     string
	g        *engine.Engine
	f        *flow.Flow // nil, as long as no plan is installed
	p        api.Plan
	polled   []int            // out by out, how many changes were told
	got      [][]api.Up       // out by out, what was polled, together
	fronts   [][]api.Time     // out by out, the frontier that was told with it
	inserted map[int][]api.Up // into inputs: those that were taken
	cmds     []api.Cmd        // all that was done
}

func watch(t *testing.T, name string) *watched {
	t.Helper()
	w := &watched{t: t, name: name, g: engine.New(), inserted: map[int][]api.Up{}}
	w.hold("new")
	return w
}

// installed is an engine that has a plan.
func installed(t *testing.T, name string, p api.Plan) *watched {
	t.Helper()
	w := watch(t, name)
	w.does(install(p))
	return w
}

func (w *watched) fatal(step, form string, l ...any) {
	w.t.Helper()
	w.t.Fatalf("%s, %s: %s", w.name, step, fmt.Sprintf(form, l...))
}

// expect is what the chapter says of a command, done on the flow beside the engine: the answer, or the error's numbers.
func (w *watched) expect(c api.Cmd) (reply api.Reply, numbers []api.Errno) {
	var e api.Errno
	switch {
	case c.Do < api.CmdInstall || c.Do > api.CmdPoll:
		e = api.ErrKind
	case c.Do == api.CmdInstall && w.f != nil:
		e = api.ErrTime
	case c.Do == api.CmdInstall:
		e = w.expectPlan(c.Sheet)
	case w.f == nil:
		e = api.ErrNone
	case w.f.Failed() != api.OK:
		return api.Reply{}, []api.Errno{api.ErrFailed, w.f.Failed()}
	default:
		reply, e = w.expectOf(c)
	}
	if e != api.OK {
		return api.Reply{}, []api.Errno{e}
	}
	return reply, nil
}

func (w *watched) expectPlan(b []byte) api.Errno {
	p, e := sheet.Decode(b)
	if e != api.OK {
		return e
	}
	f, e := flow.New(p)
	if e != api.OK {
		return e
	}
	w.f, w.p = f, p
	w.polled, w.got, w.fronts = make([]int, len(p.Outs)), make([][]api.Up, len(p.Outs)), make([][]api.Time, len(p.Outs))
	for i := range w.fronts {
		w.fronts[i] = times(pair(0, 0))
	}
	return api.OK
}

func (w *watched) expectOf(c api.Cmd) (reply api.Reply, e api.Errno) {
	switch c.Do {
	case api.CmdInsert:
		e = w.f.Insert(c.Node, c.Up)
		if e == api.OK {
			w.inserted[c.Node] = append(w.inserted[c.Node], copied(c.Up))
		}
	case api.CmdAdvance:
		e = w.f.Advance(c.Node, c.Front)
	case api.CmdStep:
		if c.Fuel < 0 {
			return reply, api.ErrArg
		}
		reply.Left, e = w.f.Step(c.Node, c.Fuel)
	case api.CmdCompact:
		e = w.f.Compact(c.Node, c.Front)
	case api.CmdPeek:
		reply.Counts, e = w.f.Peek(c.Node, c.Up.Time)
	case api.CmdPoll:
		var all []api.Up
		all, e = w.f.Out(c.Node)
		if e != api.OK {
			return reply, e
		}
		reply.Ups = all[w.polled[c.Node]:]
		reply.Front, _ = w.f.Frontier(w.p.Outs[c.Node])
		w.polled[c.Node] = len(all)
	}
	return reply, e
}

// do does a command, and holds its answer and error against what the flow beside it tells.
func (w *watched) do(c api.Cmd) (api.Reply, error) {
	w.t.Helper()
	w.cmds = append(w.cmds, copiedCmd(c))
	want, numbers := w.expect(copiedCmd(c))
	got, err := w.g.Do(c)
	step := fmt.Sprintf("command %d, %s", len(w.cmds)-1, told(c))
	if bad := faultOf(err, nameOf(c.Do), numbers...); bad != "" {
		w.fatal(step, "%s", bad)
	}
	if !sameReply(got, want) {
		w.fatal(step, "it tells %s, want %s", told(got), told(want))
	}
	if err == nil && c.Do == api.CmdPoll {
		w.got[c.Node] = append(w.got[c.Node], got.Ups...)
		w.fronts[c.Node] = got.Front
	}
	return got, err
}

// does is commands that are not refused, and all that may be asked behind each; what the last one answered.
func (w *watched) does(l ...api.Cmd) (reply api.Reply) {
	w.t.Helper()
	for _, c := range l {
		var err error
		reply, err = w.do(c)
		if err != nil {
			w.fatal(told(c), "error %v", fault.All(err))
		}
		w.hold(told(c))
	}
	return reply
}

// refuses is a command with an error; nothing has changed behind it.
func (w *watched) refuses(c api.Cmd, numbers ...api.Errno) {
	w.t.Helper()
	before := allTold(w.g)
	_, err := w.do(c)
	if bad := faultOf(err, nameOf(c.Do), numbers...); bad != "" {
		w.fatal(told(c), "%s", bad)
	}
	if after := allTold(w.g); after != before {
		w.fatal(told(c), "it tells %s, it was %s", told(after), told(before))
	}
	w.hold(told(c))
}

// fails is a command in which the flow fails.
func (w *watched) fails(c api.Cmd, e api.Errno) {
	w.t.Helper()
	_, err := w.do(c)
	if bad := faultOf(err, nameOf(c.Do), e); bad != "" {
		w.fatal(told(c), "%s", bad)
	}
	if bad := failedFault(w.g.Failed(), e); bad != "" {
		w.fatal(told(c), "%s", bad)
	}
	w.hold(told(c))
}

// allTold is all that an engine and its flow tell, as a text, without a call that changes anything.
func allTold(g *engine.Engine) string {
	p, ok := g.Plan()
	all := []any{p, ok, fault.All(g.Failed())}
	f := g.Flow()
	for i := range p.Outs {
		l, e := f.Out(i)
		all = append(all, l, e)
	}
	for at := range p.Nodes {
		l, e := f.Frontier(at)
		all = append(all, l, e)
		for _, s := range f.Spines(at) {
			all = append(all, s.Since(), s.Ups(), s.Total())
		}
	}
	waiting, stored := f.Load()
	return fmt.Sprintf("%+v", append(all, waiting, stored))
}

// hold asks the engine all that may be asked and changes nothing; what its flow tells is what the flow beside it does.
func (w *watched) hold(step string) {
	w.t.Helper()
	p, ok := w.g.Plan()
	if ok != (w.f != nil) || !sheet.Same(p, w.p) {
		w.fatal(step, "Plan is %s, %v, want %s", told(p), ok, told(w.p))
	}
	var failed api.Errno
	if w.f != nil {
		failed = w.f.Failed()
	}
	if bad := failedFault(w.g.Failed(), failed); bad != "" {
		w.fatal(step, "%s", bad)
	}
	f := w.g.Flow()
	if (f != nil) != ok {
		w.fatal(step, "is there a flow? %v", f != nil)
	}
	if f == nil {
		if w.g.Quiet() {
			w.fatal(step, "it is quiet, without a plan")
		}
		return
	}
	if bad := flowFault(f, w.f, w.p); bad != "" {
		w.fatal(step, "%s", bad)
	}
}

// flowFault is in what a flow tells something else than another one of the same plan.
func flowFault(f, g *flow.Flow, p api.Plan) string {
	if f == g {
		return "it is the same flow"
	}
	if f.Failed() != g.Failed() {
		return fmt.Sprintf("its flow's Failed is %d, want %d", int(f.Failed()), int(g.Failed()))
	}
	for i := range p.Outs {
		got, _ := f.Out(i)
		if want, _ := g.Out(i); !slices.EqualFunc(got, want, same) {
			return fmt.Sprintf("its flow's Out(%d) is %s, want %s", i, told(got), told(want))
		}
	}
	for at := range p.Nodes {
		got, _ := f.Frontier(at)
		if want, _ := g.Frontier(at); !slices.Equal(got, want) {
			return fmt.Sprintf("its flow's Frontier(%d) is %s, want %s", at, told(got), told(want))
		}
		mine, others := f.Spines(at), g.Spines(at)
		for i := range others {
			if !slices.Equal(mine[i].Since(), others[i].Since()) || !slices.EqualFunc(mine[i].Batches(), others[i].Batches(), sameBatch) || mine[i].Still() != others[i].Still() {
				return fmt.Sprintf("spine %d of node %d of its flow has %s, want %s", i, at, told(mine[i].Ups()), told(others[i].Ups()))
			}
		}
	}
	waiting, stored := f.Load()
	if otherWaiting, otherStored := g.Load(); waiting != otherWaiting || stored != otherStored {
		return fmt.Sprintf("its flow's Load is %d, %d, want %d, %d", waiting, stored, otherWaiting, otherStored)
	}
	return ""
}

func sameBatch(a, b *batch.Batch) bool {
	return a.Key() == b.Key() && a.Weight() == b.Weight() && slices.Equal(a.Since(), b.Since()) && slices.EqualFunc(a.Ups(), b.Ups(), same)
}

// quiet asks both; joins and folds of both are advanced by it.
func (w *watched) quiet() bool {
	w.t.Helper()
	got, want := w.g.Quiet(), w.f.Quiet()
	if got != want {
		w.fatal("Quiet", "%v, want %v", got, want)
	}
	return got
}

func (w *watched) isQuiet(want bool) {
	w.t.Helper()
	if got := w.quiet(); got != want {
		w.fatal("Quiet", "%v, want %v", got, want)
	}
}

// polls is a poll with what it must tell.
func (w *watched) polls(i int, frontier []api.Time, want ...api.Up) {
	w.t.Helper()
	reply := w.does(poll(i))
	if !sameReply(reply, api.Reply{Ups: want, Front: frontier}) {
		w.fatal(fmt.Sprintf("poll %d", i), "%s, want %s, %s", told(reply), told(want), told(frontier))
	}
}

// leaves is a step that leaves so much.
func (w *watched) leaves(at, fuel, want int) {
	w.t.Helper()
	if reply := w.does(step(at, fuel)); !sameReply(reply, api.Reply{Left: want}) {
		w.fatal(fmt.Sprintf("step %d with %d", at, fuel), "%s, want %d", told(reply), want)
	}
}

// sees is a peek with what it must tell.
func (w *watched) sees(at int, t api.Time, want ...api.Count) {
	w.t.Helper()
	if reply := w.does(peek(at, t)); !sameReply(reply, api.Reply{Counts: want}) {
		w.fatal(fmt.Sprintf("peek %d at %v", at, t), "%s, want %s", told(reply), told(want))
	}
}

// puts is inserts that are taken, and tell nothing.
func (w *watched) puts(at int, l ...api.Up) {
	w.t.Helper()
	for _, u := range l {
		if reply := w.does(insert(at, u)); !sameReply(reply, api.Reply{}) {
			w.fatal("insert", "it tells %s", told(reply))
		}
	}
}

// moves is an advance that is taken, and tells nothing.
func (w *watched) moves(at int, l ...api.Time) {
	w.t.Helper()
	if reply := w.does(advance(at, l...)); !sameReply(reply, api.Reply{}) {
		w.fatal("advance", "it tells %s", told(reply))
	}
}

// together asks whether what was polled, together, is what came to each out; nothing is left to be polled behind it.
func (w *watched) together() {
	w.t.Helper()
	for i := range w.p.Outs {
		w.does(poll(i))
		if all, _ := w.g.Flow().Out(i); !slices.EqualFunc(w.got[i], all, same) {
			w.fatal("together", "out %d: %s was polled, %s came", i, told(w.got[i]), told(all))
		}
	}
}

// lists is what was inserted, as deno asks for it.
func (w *watched) lists() [][]api.Up {
	var l [][]api.Up
	for _, at := range plan.Inputs(w.p) {
		l = append(l, w.inserted[at])
	}
	return l
}

// means holds what was polled, at the times that are closed by the frontier that was told with it, against what the plan means; how many times were closed.
func (w *watched) means(l []api.Time) (closed int) {
	w.t.Helper()
	for _, t := range l {
		if !slices.ContainsFunc(w.fronts, func(f []api.Time) bool { return !advanced(f, t) }) {
			continue
		}
		want, e := deno.At(w.p, w.lists(), t)
		if e != api.OK {
			continue
		}
		for i, f := range w.fronts {
			if advanced(f, t) {
				continue
			}
			got, e := zset.At(w.got[i], t)
			if e != api.OK || !slices.EqualFunc(got, want[i], sameCount) {
				w.fatal(fmt.Sprint("at ", t), "out %d: %s, error %d; the plan means %s", i, told(got), int(e), told(want[i]))
			}
			closed++
		}
	}
	return closed
}

// settle gives each node its turn, again and again, until all is quiet.
func (w *watched) settle(fuel int) {
	w.t.Helper()
	for round := 0; !w.quiet(); round++ {
		for at := range w.p.Nodes {
			if _, err := w.do(step(at, fuel)); err != nil {
				w.fatal("settle", "error %v", fault.All(err))
			}
		}
		if round > 100000 {
			w.fatal("settle", "it is never quiet")
		}
	}
	w.hold("settled")
}

package flow_test

import (
	"fmt"
	"reflect"
	"runtime"
	"slices"
	"testing"
	"unsafe"
	"weak"

	"runnel/api"
	"runnel/flow"
	"runnel/plan"
)

// withRoom is the list with spare room behind it, which is filled.
func withRoom[T any](l []T, spare ...T) []T {
	return slices.Clip(append(slices.Clip(slices.Clone(l)), spare...))[:len(l)]
}

// everything is a list with its spare room.
func everything[T any](l []T) []T { return l[:cap(l)] }

// roomy is a change with spare room behind its row, roomyTimes is a list of times with it, roomyPlan a plan with it in all its lists.
func roomy(u api.Up) api.Up {
	u.Row = withRoom(u.Row, s("spare"), n(77))
	return u
}

func roomyTimes(l []api.Time) []api.Time { return withRoom(l, pair(71, 72), pair(0, 0)) }

func roomyPlan(p api.Plan) api.Plan {
	p = copiedPlan(p)
	for i := range p.Nodes {
		one := &p.Nodes[i]
		one.Ins, one.Kinds, one.Cols = withRoom(one.Ins, 0, 1), withRoom(one.Kinds, 0, 1), withRoom(one.Cols, 0, 1)
		for j := range one.Exprs {
			one.Exprs[j] = withRoom(one.Exprs[j], api.Term{Op: api.OpNeg})
		}
		one.Exprs = withRoom(one.Exprs, number(3))
	}
	p.Nodes, p.Outs = withRoom(p.Nodes, input(num)), withRoom(p.Outs, 0, 1)
	return p
}

// allOf is a plan with its spare room, in memory of its own.
func allOf(p api.Plan) api.Plan {
	p.Outs, p.Nodes = everything(p.Outs), slices.Clone(everything(p.Nodes))
	for i := range p.Nodes {
		one := &p.Nodes[i]
		one.Ins, one.Kinds, one.Cols, one.Exprs = everything(one.Ins), everything(one.Kinds), everything(one.Cols), slices.Clone(everything(one.Exprs))
		for j := range one.Exprs {
			one.Exprs[j] = everything(one.Exprs[j])
		}
	}
	return copiedPlan(p)
}

// spoilList writes over what is appended to a list, and over the list itself, spare room too.
func spoilList[T any](l []T, x T) {
	for _, part := range [][]T{append(l, x), everything(l)} {
		for i := range part {
			part[i] = x
		}
	}
}

func spoilRow(l api.Row)      { spoilList(l, s("over")) }
func spoilTimes(l []api.Time) { spoilList(l, pair(-83, -84)) }

func spoilUps(l []api.Up) {
	for _, u := range l {
		spoilRow(u.Row)
	}
	spoilList(l, up(r("over"), -83, -84, 85))
}

func spoilCounts(l []api.Count) {
	for _, c := range l {
		spoilRow(c.Row)
	}
	spoilList(l, count(85, r("over")))
}

func spoilPlan(p api.Plan) {
	for _, one := range p.Nodes {
		spoilList(one.Ins, 63)
		spoilList(one.Kinds, 7)
		spoilList(one.Cols, 15)
		for _, l := range one.Exprs {
			spoilList(l, api.Term{Op: api.OpStr, Str: "over"})
		}
		spoilList(one.Exprs, nil)
	}
	spoilList(p.Nodes, api.Node{Kind: 99, Key: 99, N: 99, Size: 99, Slide: 99})
	spoilList(p.Outs, 63)
}

// everyKind is a plan in which each kind of node is, and leads to an out.
func everyKind() api.Plan {
	p := planOf(4, input(num, text), input(num, num),
		mapped(1, of(api.OpAdd, col(0), number(0)), col(1)), filter(2, of(api.OpLess, col(1), number(5))), project(3, 0, 1), concat(4, 1), negate(5), consolidate(6),
		bucket(7, 1, 4, 2), arrange(8, 1), joins(0, 9, 1),
		folds(api.NodeDistinct, 9, 0, 0), folds(api.NodeCount, 10, 1, 0), folds(api.NodeSum, 11, 1, 1), folds(api.NodeMin, 11, 1, 0), folds(api.NodeMax, 11, 1, 0), folds(api.NodeTop, 11, 1, 2))
	p.Outs = []int{12, 13, 14, 15, 16, 10, 7, 0}
	return p
}

func TestEveryKindIsThere(t *testing.T) {
	seen := make([]int, api.Nodes)
	p := everyKind()
	for _, one := range p.Nodes {
		seen[one.Kind]++
	}
	if e, _ := plan.Check(p); e != api.OK || slices.Contains(seen, 0) {
		t.Fatalf("error %d, %v", int(e), seen)
	}
}

// memoryCall is an insert, an advance, or a compact.
type memoryCall struct {
	at      int
	u       api.Up
	l       []api.Time
	isFront bool
}

func memoryCalls() []memoryCall {
	var l []memoryCall
	for i := range 9 {
		l = append(l,
			memoryCall{at: 0, u: up(r(i%3, "a"), i, 1, 1)},
			memoryCall{at: 1, u: up(r(i%3, i%4), i, 2, 2)},
			memoryCall{at: 1, u: up(r(i%3, (i+1)%4), i, i, -1)},
			memoryCall{at: 0, u: up(r(i, 5), i, 1, 1)}, // refused
			memoryCall{at: 1, u: up(r(i, 5), -1, 1, 1)},
			memoryCall{at: 3, u: up(r(i, 5), i, 1, 1)})
		if i%2 == 1 {
			f := times(pair(i-1, 1), pair(i, 0))
			l = append(l,
				memoryCall{at: 0, l: f, isFront: true}, memoryCall{at: 1, l: f, isFront: true}, memoryCall{at: 9, l: times(pair(i-1, 0)), isFront: true},
				memoryCall{at: 0, l: times(pair(0, 0)), isFront: true}, memoryCall{at: 9, l: times(pair(5, 5), pair(4, 4)), isFront: true}, memoryCall{at: 1, l: make([]api.Time, 17), isFront: true})
		}
	}
	return l
}

// do is one of these calls, with spare room behind what is handed in: neither it nor the room is changed. It tells how what was handed in is written over.
func (k memoryCall) do(t *testing.T, f *flow.Flow) (spoil func()) {
	t.Helper()
	if k.isFront {
		l := roomyTimes(k.l)
		before := slices.Clone(everything(l))
		if k.at == 9 {
			f.Compact(k.at, l)
		} else {
			f.Advance(k.at, l)
		}
		if !slices.Equal(everything(l), before) {
			t.Fatalf("%v was changed to %v", before, everything(l))
		}
		return func() { spoilTimes(l) }
	}
	u := roomy(k.u)
	before := slices.Clone(everything(u.Row))
	f.Insert(k.at, u)
	if !reflect.DeepEqual(everything(u.Row), before) {
		t.Fatalf("%v was changed to %v", before, everything(u.Row))
	}
	return func() { spoilRow(u.Row) }
}

// everythingTold is all that a flow tells, as a text.
func everythingTold(f *flow.Flow, p api.Plan) string {
	var all []any
	for i := range p.Outs {
		l, e := f.Out(i)
		all = append(all, l, e)
	}
	for at := range p.Nodes {
		l, e := f.Frontier(at)
		all = append(all, l, e)
		for _, when := range grid(5) {
			c, e := f.Peek(at, when)
			all = append(all, c, e)
		}
		for _, s := range f.Spines(at) {
			all = append(all, s.Since(), s.Ups(), s.Total())
		}
	}
	waiting, stored := f.Load()
	return fmt.Sprintf("%+v", append(all, waiting, stored, f.Quiet(), f.Failed()))
}

// alike holds two flows against each other that must tell the same, now and when they go on.
func alike(t *testing.T, step string, f, twin *flow.Flow, p api.Plan) {
	t.Helper()
	if got, want := everythingTold(f, p), everythingTold(twin, p); got != want {
		t.Fatalf("%s: it tells %s, want %s", step, told(got), told(want))
	}
}

func turnsOfAll(f *flow.Flow, p api.Plan, fuel int) {
	for at := range p.Nodes {
		f.Step(at, fuel)
	}
}

// finish is all that is left to be done.
func finish(t *testing.T, f, twin *flow.Flow, p api.Plan) {
	t.Helper()
	for _, x := range []*flow.Flow{f, twin} {
		x.Advance(0, nil)
		x.Advance(1, nil)
		for rounds := 0; !x.Quiet() && rounds < 2000; rounds++ {
			turnsOfAll(x, p, 3)
		}
		if !x.Quiet() {
			t.Fatalf("it is not quiet: Failed %d", int(x.Failed()))
		}
	}
	alike(t, "the end", f, twin, p)
	for i := range p.Outs {
		if l, _ := f.Out(i); len(l) == 0 {
			t.Fatalf("nothing came to out %d", i)
		}
	}
}

func TestThePlanIsLeft(t *testing.T) { // the rule of memory: neither changed nor kept, all its lists with their spare room
	p := everyKind()
	given := roomyPlan(p)
	before := allOf(given)
	f, e := flow.New(given)
	if e != api.OK {
		t.Fatalf("error %d", int(e))
	}
	if !reflect.DeepEqual(allOf(given), before) {
		t.Fatal("the plan was changed")
	}
	spoilPlan(given)
	twin, _ := flow.New(copiedPlan(p))
	for i, k := range memoryCalls() {
		k.do(t, f)
		k.do(t, twin)
		if i%5 == 4 {
			turnsOfAll(f, p, 2)
			turnsOfAll(twin, p, 2)
			alike(t, fmt.Sprint("call ", i), f, twin, p)
		}
	}
	finish(t, f, twin, p)
	for name, bad := range map[string]api.Plan{"no room": {Nodes: p.Nodes, Outs: p.Outs}, "a loop": planOf(9, negate(1), negate(0))} {
		given := roomyPlan(bad)
		before := allOf(given)
		flow.New(given)
		if !reflect.DeepEqual(allOf(given), before) {
			t.Fatalf("%s: the plan was changed", name)
		}
	}
}

func TestPlanThatIsUsedAgain(t *testing.T) { // the rule of memory: one plan that the caller changes for each flow
	p := planOf(3, input(num), mapped(0, of(api.OpAdd, col(0), number(0))))
	var flows []*flow.Flow
	for i := range 4 {
		p.Nodes[1].Exprs[0][1].Int = i
		f, _ := flow.New(p)
		flows = append(flows, f)
	}
	p.Nodes[1].Exprs[0][1].Int = 99
	for i, f := range flows {
		f.Insert(0, up(r(10), 0, 0, 1))
		f.Step(1, 1)
		if l, _ := f.Out(0); len(l) != 1 || l[0].Row[0].Int != 10+i {
			t.Fatalf("flow %d: %v", i, l)
		}
	}
}

func TestWhatIsHandedInIsLeft(t *testing.T) { // the rule of memory: rows and frontiers, written over at once, or when all is handed in
	for _, atOnce := range []bool{true, false} {
		p := everyKind()
		f, _ := flow.New(p)
		twin, _ := flow.New(p)
		var spoils []func()
		for i, k := range memoryCalls() {
			spoil := k.do(t, f)
			k.do(t, twin)
			if atOnce {
				spoil()
				alike(t, fmt.Sprint("call ", i), f, twin, p)
			}
			spoils = append(spoils, spoil)
			if i%4 == 3 {
				turnsOfAll(f, p, 3)
				turnsOfAll(twin, p, 3)
			}
		}
		for _, spoil := range spoils {
			spoil()
		}
		alike(t, "all is written over", f, twin, p)
		finish(t, f, twin, p)
	}
}

func TestOneRowAgainAndAgain(t *testing.T) { // the rule of memory: a row and a list that the caller fills anew for each call
	p := everyKind()
	w := watch(t, "again", p)
	a, b, l := make(api.Row, 2), make(api.Row, 2), make([]api.Time, 2)
	for i := range 30 {
		a[0], a[1] = n(i%3), s([]string{"a", "b"}[i%2])
		w.puts(0, up(a, i/5, i%3, 1))
		b[0], b[1] = n(i%3), n(i%5)
		w.puts(1, up(b, i/5, i%2, 1))
		a[0], a[1], b[0], b[1] = n(99), s("over"), n(99), n(98)
		if i%5 == 4 {
			l[0], l[1] = pair(i/5, 5), pair(i/5+1, 0)
			w.moves(0, l...)
			w.moves(1, l...)
			w.forgets(9, times(pair(i/5, 0)), api.OK)
			l[0] = pair(i/5+1, 0)
			w.moves(0, l[0])
			l[0], l[1] = pair(99, 99), pair(0, 0)
			w.hold("the list is written over")
		}
		for at := range p.Nodes {
			w.step(at, 2)
		}
		w.hold("Steps")
	}
	w.moves(0)
	w.moves(1)
	w.settle(50)
	w.means(grid(8))
}

// places are where the things of lists lie, each of which may be there but once. They keep what was told, so that no memory is told twice only because it came to be free.
type places map[unsafe.Pointer]string

func take[T any](t *testing.T, p places, name string, l []T) {
	t.Helper()
	for i := range everything(l) {
		place := unsafe.Pointer(&everything(l)[i])
		if other, there := p[place]; there {
			t.Fatalf("%s lies where %s does", name, other)
		}
		p[place] = name
	}
}

// takeAll takes all lists that a flow tells.
func takeAll(t *testing.T, taken places, f *flow.Flow, p api.Plan) (rows int) {
	t.Helper()
	for i := range p.Outs {
		l, _ := f.Out(i)
		take(t, taken, "Out", l)
		for _, u := range l {
			take(t, taken, "a row of Out", u.Row)
			rows++
		}
	}
	for at := range p.Nodes {
		l, _ := f.Frontier(at)
		take(t, taken, "Frontier", l)
		for _, when := range times(pair(0, 9), pair(1, 1), pair(2, 0), pair(3, 3)) {
			c, _ := f.Peek(at, when)
			take(t, taken, "Peek", c)
			for _, one := range c {
				take(t, taken, "a row of Peek", one.Row)
				rows++
			}
		}
		take(t, taken, "Spines", f.Spines(at))
	}
	return rows
}

func TestAnswersAreTheirOwn(t *testing.T) { // the rule of memory: no list of an answer, spare room too, lies where another one does, or what was handed in
	taken := places{}
	p := roomyPlan(everyKind())
	take(t, taken, "Nodes", p.Nodes)
	take(t, taken, "Outs", p.Outs)
	f, _ := flow.New(p)
	rows := 0
	for i, k := range memoryCalls() {
		if k.isFront {
			l := roomyTimes(k.l)
			take(t, taken, "a frontier that is handed in", l)
			if k.at == 9 {
				f.Compact(9, l)
			} else {
				f.Advance(k.at, l)
			}
		} else {
			u := roomy(k.u)
			take(t, taken, "a row that is handed in", u.Row)
			f.Insert(k.at, u)
		}
		if i%6 == 5 {
			rows += takeAll(t, taken, f, p)
			turnsOfAll(f, p, 5)
			rows += takeAll(t, taken, f, p)
			rows += takeAll(t, taken, f, p)
		}
	}
	if rows < 500 {
		t.Fatalf("only %d rows", rows)
	}
}

func TestAnswersAreWrittenOver(t *testing.T) { // the rule of memory: the flow, and the other answers, tell the same
	p := everyKind()
	f, _ := flow.New(p)
	twin, _ := flow.New(p)
	spoilt := 0
	for i, k := range memoryCalls() {
		k.do(t, f)
		k.do(t, twin)
		turnsOfAll(f, p, 2)
		turnsOfAll(twin, p, 2)
		for out := range p.Outs {
			first, _ := f.Out(out)
			second, _ := f.Out(out)
			want := fmt.Sprint(second)
			spoilUps(first)
			if spoilt += len(first); fmt.Sprint(second) != want {
				t.Fatalf("Out(%d): %v, want %v", out, second, want)
			}
		}
		for at := range p.Nodes {
			first, _ := f.Frontier(at)
			second, _ := f.Frontier(at)
			want := fmt.Sprint(second)
			spoilTimes(first)
			if fmt.Sprint(second) != want {
				t.Fatalf("Frontier(%d): %v, want %v", at, second, want)
			}
		}
		for _, when := range grid(4) {
			first, _ := f.Peek(9, when)
			second, _ := f.Peek(9, when)
			want := fmt.Sprint(second)
			spoilCounts(first)
			if fmt.Sprint(second) != want {
				t.Fatalf("Peek(9, %v): %v, want %v", when, second, want)
			}
		}
		alike(t, fmt.Sprint("call ", i), f, twin, p)
	}
	if spoilt < 1000 {
		t.Fatalf("only %d were written over", spoilt)
	}
	finish(t, f, twin, p)
}

func TestRowsOfOneOut(t *testing.T) { // the rule of memory: one after the other written over: those behind it are left
	f, _ := flow.New(outsAre(planOf(9, input(num, num), arrange(0, 1)), 1, 0, 1))
	for i := range 5 {
		f.Insert(0, up(r(i, i), 0, 0, 1))
	}
	f.Step(1, 9)
	f.Advance(0, nil)
	for out := range 3 {
		l, _ := f.Out(out)
		for i := range l {
			spoilRow(l[i].Row)
			for j, u := range l[i+1:] {
				if u.Row[0].Int != i+1+j {
					t.Fatalf("out %d: row %d is %v", out, i+1+j, u.Row)
				}
			}
		}
	}
	c, _ := f.Peek(1, pair(5, 5))
	for i := range c {
		spoilRow(c[i].Row)
		for j, one := range c[i+1:] {
			if one.Row[0].Int != i+1+j {
				t.Fatalf("Peek: row %d is %v", i+1+j, one.Row)
			}
		}
	}
	for out := range 3 {
		if l, _ := f.Out(out); len(l) != 5 || l[4].Row[1].Int != 4 {
			t.Fatalf("out %d: %v", out, l)
		}
	}
}

func TestToldIsHandedInAgain(t *testing.T) { // the rule of memory: what one flow told, handed to another one, is the memory of neither
	p := planOf(9, input(num), counts(0, 1))
	a, _ := flow.New(p)
	b, _ := flow.New(planOf(9, input(num, num), arrange(0, 1)))
	for i := range 6 {
		a.Insert(0, up(r(i%2), i, 0, 1))
	}
	a.Advance(0, times(pair(3, 0)))
	a.Step(1, 100)
	want := everythingTold(a, p)
	frontier, _ := a.Frontier(1)
	l, _ := a.Out(0)
	for _, u := range l {
		b.Insert(0, u)
	}
	b.Advance(0, frontier)
	if got, _ := a.Frontier(1); !slices.Equal(got, frontier) {
		t.Fatalf("%v, want %v", got, frontier)
	}
	spoilUps(l)
	spoilTimes(frontier)
	b.Step(1, 100)
	if c, e := b.Peek(1, pair(2, 0)); e != api.OK || len(c) != 2 {
		t.Fatalf("%v, error %d", c, int(e))
	}
	if e := b.Insert(0, up(r(1, 1), 2, 0, 1)); e != api.ErrTime {
		t.Fatalf("error %d", int(e))
	}
	if got := everythingTold(a, p); got != want {
		t.Fatalf("%s, want %s", told(got), told(want))
	}
}

func TestWhatIsGoneIsNotKept(t *testing.T) { // no more is kept than is needed: neither what was handed in nor what was told
	p := outsAre(planOf(9, input(num, num), negate(0), consolidate(1), arrange(0, 1), counts(3, 1), joins(3, 0, 1)), 0, 2, 4)
	given := roomyPlan(p)
	f, _ := flow.New(given)
	gone := []weak.Pointer[int]{weak.Make(&given.Outs[0]), weak.Make(&given.Nodes[1].Ins[0]), weak.Make(&given.Nodes[0].Kinds[0])}
	given = api.Plan{}
	var goneRows []weak.Pointer[api.Val]
	var goneTimes []weak.Pointer[api.Time]
	for round := range 4 {
		for i := range 10 {
			u := roomy(up(r(i%3, i), 5*round, i, 1))
			f.Insert(0, u)
			goneRows = append(goneRows, weak.Make(&u.Row[0]))
		}
		l := roomyTimes(times(pair(5*round+1, 0)))
		f.Advance(0, l)
		goneTimes = append(goneTimes, weak.Make(&l[0]))
		back := roomyTimes(times(pair(5*round, 0)))
		f.Compact(3, back)
		goneTimes = append(goneTimes, weak.Make(&back[0]))
		turnsOfAll(f, p, 7)
		for i := range p.Outs {
			told, _ := f.Out(i)
			for _, u := range told {
				goneRows = append(goneRows, weak.Make(&u.Row[0]))
			}
		}
		for at := range p.Nodes {
			told, _ := f.Frontier(at)
			goneTimes = append(goneTimes, weak.Make(&told[0]))
		}
		runtime.GC()
		runtime.GC()
		for i, x := range goneRows {
			if x.Value() != nil {
				t.Fatalf("round %d: row %d is kept", round, i)
			}
		}
		for i, x := range goneTimes {
			if x.Value() != nil {
				t.Fatalf("round %d: list %d is kept", round, i)
			}
		}
		for i, x := range gone {
			if x.Value() != nil {
				t.Fatalf("list %d of the plan is kept", i)
			}
		}
	}
	runtime.KeepAlive(f)
}

package engine_test

import (
	"fmt"
	"reflect"
	"runtime"
	"slices"
	"testing"
	"unsafe"
	"weak"

	"runnel/api"
	"runnel/engine"
	"runnel/fault"
	"runnel/sheet"
)

// withRoom is the list with spare room behind it, which is filled.
func withRoom[T any](l []T, spare ...T) []T {
	return slices.Clip(append(slices.Clip(slices.Clone(l)), spare...))[:len(l)]
}

// everything is a list with its spare room.
func everything[T any](l []T) []T { return l[:cap(l)] }

// roomy is a command with spare room behind all its lists.
func roomy(c api.Cmd) api.Cmd {
	c.Up.Row = withRoom(c.Up.Row, s("spare"), n(77))
	c.Front = withRoom(c.Front, pair(71, 72), pair(0, 0))
	c.Sheet = withRoom(c.Sheet, 0, 80, 255)
	return c
}

// allOf is a command with its spare room, in memory of its own.
func allOf(c api.Cmd) api.Cmd {
	c.Up.Row, c.Front, c.Sheet = everything(c.Up.Row), everything(c.Front), everything(c.Sheet)
	return copiedCmd(c)
}

// spoilList writes over what is appended to a list, and over the list itself, spare room too.
func spoilList[T any](l []T, x T) {
	for _, part := range [][]T{append(l, x), everything(l)} {
		for i := range part {
			part[i] = x
		}
	}
}

func spoilRow(l api.Row) { spoilList(l, s("over")) }

func spoilCmd(c api.Cmd) {
	spoilRow(c.Up.Row)
	spoilList(c.Front, pair(-83, -84))
	spoilList(c.Sheet, 255)
}

func spoilReply(reply api.Reply) {
	for _, u := range reply.Ups {
		spoilRow(u.Row)
	}
	for _, c := range reply.Counts {
		spoilRow(c.Row)
	}
	spoilList(reply.Ups, up(r("over"), -83, -84, 85))
	spoilList(reply.Counts, count(85, r("over")))
	spoilList(reply.Front, pair(-83, -84))
}

func spoilPlan(p api.Plan) {
	for _, one := range p.Nodes {
		spoilList(one.Ins, 63)
		spoilList(one.Kinds, 7)
		spoilList(one.Cols, 15)
		for _, l := range one.Exprs {
			spoilList(l, api.Term{Op: api.OpStr, Str: "over"})
		}
		spoilList(one.Exprs, nil)
	}
	spoilList(p.Nodes, api.Node{Kind: 99, Key: 99, N: 99, Size: 99, Slide: 99})
	spoilList(p.Outs, 63)
}

// memoryCommands are commands for a session with everyKind, some of which are refused.
func memoryCommands() []api.Cmd {
	p := everyKind()
	l := []api.Cmd{{Do: api.CmdInstall, Sheet: []byte("no plan")}, install(planOf(0, input(num))), install(p), install(p)}
	for i := range 12 {
		l = append(l, insert(0, up(r(i%3, "a"), i, 1, 1)), insert(1, up(r(i%3, i%4), i, 2, 2)), insert(1, up(r(i%3, (i+1)%4), i, 0, -1)),
			insert(0, up(r(i, 5), i, 1, 1)), insert(1, up(r(i, 5), -1, 1, 1)), insert(3, up(r(i, 5), i, 1, 1))) // refused
		closed := times(pair(i+1, 0))
		if i%2 == 1 {
			closed = times(pair(i, 3), pair(i+1, 0))
			l = append(l, compact(9, times(pair(i-1, 2), pair(i, 0))...))
		}
		l = append(l, advance(0, closed...), advance(1, closed...), advance(0, pair(0, 0)), compact(9, pair(5, 5), pair(4, 4)), advance(1, make([]api.Time, 17)...))
		for range 2 {
			for at := range p.Nodes {
				l = append(l, step(at, 9))
			}
		}
		for out := range p.Outs {
			l = append(l, poll(out))
		}
		l = append(l, peek(9, pair(i, 0)), peek(9, pair(i, 2)), peek(9, pair(i, 3)), peek(9, pair(0, 9)))
	}
	return l
}

// full is the same with the fields that a command does not use filled, too.
func full(c api.Cmd) api.Cmd {
	if c.Do != api.CmdInsert {
		c.Up.Row = r(1, "a")
	}
	if c.Do != api.CmdAdvance && c.Do != api.CmdCompact {
		c.Front = times(pair(1, 1))
	}
	if c.Do != api.CmdInstall {
		c.Sheet = []byte{80, 1, 2}
	}
	return c
}

// alike asks that two engines tell the same, beside what a command answered.
func alike(t *testing.T, at string, g, twin *engine.Engine) {
	t.Helper()
	if got, want := allTold(g), allTold(twin); got != want {
		t.Fatalf("%s: it tells %s, want %s", at, told(got), told(want))
	}
}

// isAnswered asks that two commands were answered alike, and tells how many rows that has.
func isAnswered(t *testing.T, c api.Cmd, got, want api.Reply, gotErr, err error) int {
	t.Helper()
	if !sameReply(got, want) || !slices.Equal(fault.All(gotErr), fault.All(err)) {
		t.Fatalf("%s: %s, %v; want %s, %v", told(c), told(got), fault.All(gotErr), told(want), fault.All(err))
	}
	return len(got.Ups) + len(got.Counts)
}

func TestWhatIsHandedInIsLeft(t *testing.T) { // the rule of memory: neither changed nor kept: Sheet, rows and Front, written over at once, or when all is handed in
	for _, atOnce := range []bool{true, false} {
		g, twin, rows := engine.New(), engine.New(), 0
		var handed []api.Cmd
		for i, c := range memoryCommands() {
			given := roomy(full(c))
			before := allOf(given)
			got, gotErr := g.Do(given)
			if !reflect.DeepEqual(allOf(given), before) {
				t.Fatalf("command %d: %s was changed to %s", i, told(before), told(given))
			}
			want, err := twin.Do(copiedCmd(c))
			if atOnce {
				spoilCmd(given)
			}
			rows += isAnswered(t, c, got, want, gotErr, err)
			handed = append(handed, given)
			if i%20 == 0 {
				alike(t, fmt.Sprint("command ", i), g, twin)
			}
		}
		for _, c := range handed {
			spoilCmd(c)
		}
		alike(t, "all is written over", g, twin)
		for at := range everyKind().Nodes {
			got, gotErr := g.Do(step(at, 1000))
			want, err := twin.Do(step(at, 1000))
			isAnswered(t, step(at, 1000), got, want, gotErr, err)
		}
		alike(t, "the end", g, twin)
		if rows < 200 {
			t.Fatalf("only %d rows", rows)
		}
	}
}

func TestOneOfEachAgainAndAgain(t *testing.T) { // the rule of memory: a row, a list and a sheet that the caller fills anew for each command
	p := planOf(9, input(num, num), arrange(0, 1))
	b := bytesOf(p)
	w := installed(t, "again", p)
	other := engine.New()
	other.Do(api.Cmd{Do: api.CmdInstall, Sheet: b})
	for i := range b {
		b[i] = 255
	}
	if q, ok := other.Plan(); !ok || !sheet.Same(p, q) {
		t.Fatalf("Plan is %v, %v", q, ok)
	}
	line, l := make(api.Row, 2), make([]api.Time, 2)
	for i := range 20 {
		line[0], line[1] = n(i%3), n(i)
		w.puts(0, up(line, i, i, 1))
		line[0], line[1] = n(99), s("over")
		l[0], l[1] = pair(i, i+1), pair(i+1, i)
		w.moves(0, l...)
		l[0], l[1] = pair(99, 99), pair(0, 0)
		w.leaves(1, 1, 0)
		l[0], l[1] = pair(i, i+1), pair(i+1, i)
		w.does(compact(1, l...))
		l[0], l[1] = pair(99, 99), pair(0, 0)
		w.polls(0, times(pair(i, i+1), pair(i+1, i)), up(r(i%3, i), i, i, 1))
	}
}

// places are where the things of lists lie, each of which may be there but once. They keep what was told, so that no memory is told twice only because it came to be free.
type places map[unsafe.Pointer]string

func take[T any](t *testing.T, p places, name string, l []T) {
	t.Helper()
	for i := range everything(l) {
		place := unsafe.Pointer(&everything(l)[i])
		if other, there := p[place]; there {
			t.Fatalf("%s lies where %s does", name, other)
		}
		p[place] = name
	}
}

func takeReply(t *testing.T, taken places, name string, reply api.Reply) (rows int) {
	t.Helper()
	take(t, taken, name+": Ups", reply.Ups)
	take(t, taken, name+": Counts", reply.Counts)
	take(t, taken, name+": Front", reply.Front)
	for _, u := range reply.Ups {
		take(t, taken, name+": a row of Ups", u.Row)
	}
	for _, c := range reply.Counts {
		take(t, taken, name+": a row of Counts", c.Row)
	}
	return len(reply.Ups) + len(reply.Counts)
}

func takePlan(t *testing.T, taken places, p api.Plan) {
	t.Helper()
	take(t, taken, "Nodes", p.Nodes)
	take(t, taken, "Outs", p.Outs)
	for _, one := range p.Nodes {
		take(t, taken, "Ins", one.Ins)
		take(t, taken, "Kinds", one.Kinds)
		take(t, taken, "Cols", one.Cols)
		take(t, taken, "Exprs", one.Exprs)
		for _, l := range one.Exprs {
			take(t, taken, "an expression", l)
		}
	}
}

// takeFlow takes what the engine's flow tells, which is its own memory.
func takeFlow(t *testing.T, taken places, g *engine.Engine, p api.Plan) {
	t.Helper()
	f := g.Flow()
	for i := range p.Outs {
		l, _ := f.Out(i)
		take(t, taken, "Out", l)
		for _, u := range l {
			take(t, taken, "a row of Out", u.Row)
		}
	}
	for at := range p.Nodes {
		l, _ := f.Frontier(at)
		take(t, taken, "Frontier", l)
	}
}

func TestAnswersAreTheirOwn(t *testing.T) { // the rule of memory: no list of an answer, spare room too, lies where another one does, or what was handed in
	taken, g, rows := places{}, engine.New(), 0
	for i, c := range memoryCommands() {
		given := roomy(full(c))
		take(t, taken, "a row that is handed in", given.Up.Row)
		take(t, taken, "a frontier that is handed in", given.Front)
		take(t, taken, "a sheet that is handed in", given.Sheet)
		reply, _ := g.Do(given)
		rows += takeReply(t, taken, engine.Name(c.Do), reply)
		p, ok := g.Plan()
		if !ok {
			continue
		}
		takePlan(t, taken, p)
		if i%40 == 39 {
			takeFlow(t, taken, g, p)
		}
	}
	if rows < 200 {
		t.Fatalf("only %d rows", rows)
	}
}

func TestAnswersAreWrittenOver(t *testing.T) { // the rule of memory: the engine, and the other answers, tell the same
	g, twin := engine.New(), engine.New()
	type answer struct {
		reply api.Reply
		text  string
	}
	var kept []answer
	spoilt := 0
	for i, c := range memoryCommands() {
		got, gotErr := g.Do(c)
		want, err := twin.Do(c)
		spoilt += isAnswered(t, c, got, want, gotErr, err)
		if i%2 == 0 {
			spoilReply(got)
		} else {
			kept = append(kept, answer{got, fmt.Sprintf("%+v", got)})
		}
		first, _ := g.Plan()
		second, _ := g.Plan()
		spoilPlan(first)
		if whole, _ := twin.Plan(); !sheet.Same(second, whole) {
			t.Fatalf("command %d: the plan is %s", i, told(second))
		}
		if i%20 == 0 {
			alike(t, fmt.Sprint("command ", i), g, twin)
		}
	}
	for i, k := range kept {
		if fmt.Sprintf("%+v", k.reply) != k.text {
			t.Fatalf("answer %d was %s, it is %s", i, told(k.text), told(k.reply))
		}
	}
	alike(t, "the end", g, twin)
	if spoilt < 200 {
		t.Fatalf("only %d were written over", spoilt)
	}
}

func TestRowsOfOneAnswer(t *testing.T) { // the rule of memory: one after the other written over: those behind it are left
	g := engine.New()
	g.Do(install(outsAre(planOf(9, input(num, num), arrange(0, 1)), 1, 0, 1)))
	for i := range 5 {
		g.Do(insert(0, up(r(i, i), 0, 0, 1)))
	}
	g.Do(step(1, 9))
	g.Do(advance(0))
	for out := range 3 {
		reply, err := g.Do(poll(out))
		if err != nil || len(reply.Ups) != 5 {
			t.Fatalf("out %d: %v, %v", out, reply, err)
		}
		for i := range reply.Ups {
			spoilRow(reply.Ups[i].Row)
			for j, u := range reply.Ups[i+1:] {
				if u.Row[0].Int != i+1+j {
					t.Fatalf("out %d: row %d is %v", out, i+1+j, u.Row)
				}
			}
		}
	}
	reply, _ := g.Do(peek(1, pair(5, 5)))
	for i := range reply.Counts {
		spoilRow(reply.Counts[i].Row)
		for j, c := range reply.Counts[i+1:] {
			if c.Row[0].Int != i+1+j {
				t.Fatalf("peek: row %d is %v", i+1+j, c.Row)
			}
		}
	}
	for out := range 3 {
		if l, _ := g.Flow().Out(out); len(l) != 5 || l[4].Row[1].Int != 4 {
			t.Fatalf("out %d: %v", out, l)
		}
	}
}

func TestToldIsHandedInAgain(t *testing.T) { // the rule of memory: what one engine told, handed to another one, is the memory of neither
	a, b := engine.New(), engine.New()
	a.Do(install(planOf(9, input(num), counts(0, 1))))
	b.Do(install(planOf(9, input(num, num), arrange(0, 1))))
	for i := range 6 {
		a.Do(insert(0, up(r(i%2), i, 0, 1)))
	}
	a.Do(advance(0, pair(3, 0)))
	a.Do(step(1, 100))
	want := allTold(a)
	reply, _ := a.Do(poll(0))
	for _, u := range reply.Ups {
		b.Do(insert(0, u))
	}
	b.Do(advance(0, reply.Front...))
	spoilReply(reply)
	b.Do(step(1, 100))
	if got, err := b.Do(peek(1, pair(2, 0))); err != nil || len(got.Counts) != 2 {
		t.Fatalf("%v, %v", got, fault.All(err))
	}
	if _, err := b.Do(insert(0, up(r(1, 1), 2, 0, 1))); fault.Code(err) != api.ErrTime {
		t.Fatalf("%v", fault.All(err))
	}
	if got := allTold(a); got != want {
		t.Fatalf("%s, want %s", told(got), told(want))
	}
}

func TestWhatIsGoneIsNotKept(t *testing.T) { // no more is kept than is needed: neither what was handed in nor what was told
	g := engine.New()
	var bytes []weak.Pointer[byte]
	var values []weak.Pointer[api.Val]
	var moments []weak.Pointer[api.Time]
	var nodes []weak.Pointer[api.Node]
	rows := 0
	for _, c := range memoryCommands() {
		given := roomy(full(c))
		bytes = append(bytes, weak.Make(&given.Sheet[:1][0]))
		values = append(values, weak.Make(&given.Up.Row[:1][0]))
		moments = append(moments, weak.Make(&given.Front[:1][0]))
		reply, _ := g.Do(given)
		for _, u := range reply.Ups {
			values = append(values, weak.Make(&u.Row[0]))
			rows++
		}
		for _, one := range reply.Counts {
			values = append(values, weak.Make(&one.Row[0]))
			rows++
		}
		if len(reply.Front) > 0 {
			moments = append(moments, weak.Make(&reply.Front[0]))
		}
		if p, ok := g.Plan(); ok {
			nodes = append(nodes, weak.Make(&p.Nodes[0]))
		}
	}
	runtime.GC()
	runtime.GC()
	notKept(t, "a sheet", bytes)
	notKept(t, "a row", values)
	notKept(t, "a frontier", moments)
	notKept(t, "a plan", nodes)
	if rows < 200 {
		t.Fatalf("only %d rows", rows)
	}
	runtime.KeepAlive(g)
}

func notKept[T any](t *testing.T, name string, l []weak.Pointer[T]) {
	t.Helper()
	for i, x := range l {
		if x.Value() != nil {
			t.Fatalf("%s, number %d, is kept", name, i)
		}
	}
}

package engine_test

import (
	"errors"
	"fmt"
	"slices"
	"testing"

	"runnel/api"
	"runnel/engine"
	"runnel/fault"
	"runnel/plan"
)

func TestThePage(t *testing.T) { // P25.1: the page's example
	g := engine.New()
	if g == nil {
		t.Fatal("there is no engine")
	}
	reply, err := g.Do(api.Cmd{Do: api.CmdInsert})
	if !slices.Equal(fault.Ops(err), []string{"insert"}) || fault.Code(err) != api.ErrNone || !errors.Is(err, api.ErrNone) || !sameReply(reply, api.Reply{}) {
		t.Fatalf("%v, %v, %v", reply, fault.Ops(err), fault.All(err))
	}
}

func TestName(t *testing.T) { // P25.1: of each command; "?" of others
	for do, want := range []string{"install", "insert", "advance", "step", "compact", "peek", "poll"} {
		if got := engine.Name(do); got != want {
			t.Errorf("Name(%d) is %q, want %q", do, got, want)
		}
	}
	for _, do := range noNumbers(api.Cmds) {
		if got := engine.Name(do); got != "?" {
			t.Errorf("Name(%d) is %q", do, got)
		}
	}
	for _, do := range []int{100, 256, 1<<32 + 1, 1 << 62} {
		if got := engine.Name(do); got != "?" {
			t.Errorf("Name(%d) is %q", do, got)
		}
	}
}

func TestEveryKindIsThere(t *testing.T) {
	seen := make([]int, api.Nodes)
	p := everyKind()
	for _, one := range p.Nodes {
		seen[one.Kind]++
	}
	if e, _ := plan.Check(p); e != api.OK || slices.Contains(seen, 0) {
		t.Fatalf("error %d, %v", int(e), seen)
	}
}

func TestByHand(t *testing.T) { // P25.1, P25.2: a row of commands, each told by hand
	w := watch(t, "by hand")
	p := outsAre(planOf(2, input(num, text), filter(0, of(api.OpLess, number(0), col(0))), arrange(1, 1), counts(2, 1)), 3, 0, 2)
	if reply := w.does(install(p)); !sameReply(reply, api.Reply{}) {
		t.Fatalf("install tells %v", reply)
	}
	w.isQuiet(true)
	origin := times(pair(0, 0))
	for i := range p.Outs {
		w.polls(i, origin)
	}
	w.puts(0, up(r(1, "a"), 0, 0, 1), up(r(0, "a"), 0, 0, 1), up(r(1, "b"), 1, 0, 2))
	w.isQuiet(false)
	w.polls(0, origin)
	w.polls(1, origin, up(r(1, "a"), 0, 0, 1), up(r(0, "a"), 0, 0, 1), up(r(1, "b"), 1, 0, 2))
	w.polls(1, origin)
	w.leaves(1, 9, 6) // (0 a) does not come through
	w.moves(0, pair(0, 1))
	w.polls(1, times(pair(0, 1)))
	w.polls(2, origin) // (1 a) waits there
	w.leaves(2, 1, 0)
	w.polls(2, times(pair(0, 1), pair(1, 0)), up(r(1, "a"), 0, 0, 1)) // (1 b) waits at (1, 0)
	w.sees(2, pair(0, 0), count(1, r(1, "a")))
	w.refuses(peek(2, pair(1, 0)), api.ErrOpen)
	w.refuses(peek(2, pair(0, 1)), api.ErrOpen)
	w.leaves(2, 9, 6) // two changes are merged
	w.polls(2, times(pair(0, 1)), up(r(1, "b"), 1, 0, 2))
	w.leaves(3, 0, 0)
	w.leaves(3, 3, 0) // two are accepted, and one of two that are to do is due
	w.polls(0, times(pair(0, 1), pair(1, 0)), up(r(1, 1), 0, 0, 1))
	w.moves(0, pair(2, 1))
	w.refuses(insert(0, up(r(1, "a"), 1, 9, 1)), api.ErrTime)
	w.polls(0, times(pair(1, 0)))
	w.leaves(3, 1, 0)
	w.polls(0, times(pair(2, 1)), up(r(1, 1), 1, 0, -1), up(r(1, 3), 1, 0, 1))
	w.sees(2, pair(1, 9), count(1, r(1, "a")), count(2, r(1, "b")))
	if reply := w.does(compact(2, pair(1, 0))); !sameReply(reply, api.Reply{}) {
		t.Fatalf("compact tells %v", reply)
	}
	w.refuses(peek(2, pair(0, 0)), api.ErrCompacted)
	w.sees(2, pair(1, 0), count(1, r(1, "a")), count(2, r(1, "b")))
	w.settle(1)
	w.isQuiet(true)
	for i := range p.Outs {
		w.polls(i, times(pair(2, 1)))
	}
	w.moves(0)
	w.polls(0, nil)
	w.together()
	w.means(grid(4))
}

func TestOneInputAlone(t *testing.T) { // P25.1: the least plan; an out that is an input is polled with its own frontier
	w := installed(t, "alone", planOf(1, input()))
	w.polls(0, times(pair(0, 0)))
	w.puts(0, up(nil, 3, 4, -2))
	w.polls(0, times(pair(0, 0)), up(nil, 3, 4, -2))
	w.leaves(0, 7, 7)
	w.leaves(0, 0, 0)
	w.moves(0, pair(1, 5), pair(5, 1))
	w.polls(0, times(pair(1, 5), pair(5, 1)))
	w.puts(0, up(nil, 5, 5, 1), up(nil, 1, 5, 1))
	w.moves(0)
	w.polls(0, nil, up(nil, 5, 5, 1), up(nil, 1, 5, 1))
	w.polls(0, nil)
	w.isQuiet(true)
}

func TestInstall(t *testing.T) { // P25.1: behind others that were refused; again: the first plan stays
	first, other := outsAre(planOf(3, input(num), negate(0)), 1, 0), planOf(4, input(text))
	w := watch(t, "install")
	for _, c := range []api.Cmd{insert(0, up(r(1), 0, 0, 1)), advance(0), step(0, 1), compact(0), peek(0, pair(0, 0)), poll(0)} {
		w.refuses(c, api.ErrNone)
	}
	w.refuses(api.Cmd{Do: api.Cmds}, api.ErrKind)
	w.refuses(api.Cmd{Do: api.CmdInstall}, api.ErrForm)
	w.refuses(install(planOf(0, input(num))), api.ErrArg) // a room that may not be
	w.refuses(install(planOf(3, input(num), negate(1))), api.ErrLoop)
	w.refuses(poll(0), api.ErrNone) // nothing was installed by these
	w.does(install(first))
	for round := range 3 {
		for _, again := range []api.Cmd{install(first), install(other), {Do: api.CmdInstall}, {Do: api.CmdInstall, Sheet: []byte("no plan")}, install(planOf(0, input(num))), install(planOf(3, input(num), negate(1)))} {
			w.refuses(again, api.ErrTime)
		}
		w.puts(0, up(r(round), round, 0, 1))
		w.leaves(1, 1, 0)
		w.polls(0, times(pair(0, 0)), up(r(round), round, 0, -1))
		w.polls(1, times(pair(0, 0)), up(r(round), round, 0, 1))
	}
}

func TestStep(t *testing.T) { // P25.1: with Fuel 0, 1, more than enough; what is left
	w := installed(t, "step", planOf(9, input(num), arrange(0, 1)))
	w.leaves(0, 0, 0)
	w.leaves(0, 1, 1)
	w.leaves(0, high, high)
	w.leaves(1, 0, 0)
	w.leaves(1, 5, 5)
	w.puts(0, up(r(1), 0, 0, 1), up(r(2), 0, 0, 1), up(r(3), 0, 0, 1))
	w.leaves(1, 0, 0)
	w.polls(0, times(pair(0, 0)))
	w.leaves(1, 1, 0)
	w.polls(0, times(pair(0, 0)), up(r(1), 0, 0, 1))
	w.leaves(1, 1, 0)
	w.leaves(1, 1, 0)
	w.polls(0, times(pair(0, 0)), up(r(2), 0, 0, 1), up(r(3), 0, 0, 1))
	reply := w.does(step(1, 100)) // three changes are merged, two of them twice
	if reply.Left < 90 || reply.Left >= 100 {
		t.Fatalf("%d is left", reply.Left)
	}
	w.leaves(1, 100, 100)
	w.leaves(1, high, high)
	w.isQuiet(true)
}

func TestPoll(t *testing.T) { // P25.1: twice in a row, of two outs in turn, of one that is named twice: each by itself
	p := outsAre(planOf(2, input(num), negate(0), consolidate(1)), 1, 0, 1, 2)
	w := installed(t, "poll", p)
	origin := times(pair(0, 0))
	w.puts(0, up(r(1), 0, 0, 1))
	w.leaves(1, 1, 0)
	w.polls(0, origin, up(r(1), 0, 0, -1))
	w.polls(0, origin)
	w.polls(3, origin)
	w.puts(0, up(r(2), 0, 0, 1))
	w.leaves(1, 1, 0)
	w.polls(2, origin, up(r(1), 0, 0, -1), up(r(2), 0, 0, -1)) // the same node, but polled for the first time
	w.polls(2, origin)
	w.polls(0, origin, up(r(2), 0, 0, -1))
	w.polls(1, origin, up(r(1), 0, 0, 1), up(r(2), 0, 0, 1))
	w.leaves(2, 5, 3)
	w.polls(3, origin) // they are held
	w.moves(0, pair(1, 1))
	w.polls(3, origin)
	w.polls(1, times(pair(1, 1)))
	w.polls(0, times(pair(1, 1)))
	w.leaves(2, 1, 0)
	w.polls(3, origin, up(r(1), 0, 0, -1))
	w.leaves(2, 1, 0)
	w.polls(3, times(pair(1, 1)), up(r(2), 0, 0, -1))
	w.puts(0, up(r(3), 2, 1, 1))
	w.moves(0, pair(2, 2))
	for i, frontier := range [][]api.Time{times(pair(2, 1)), times(pair(2, 2)), times(pair(2, 1)), times(pair(2, 1))} { // (3) waits
		if i == 1 {
			w.polls(i, frontier, up(r(3), 2, 1, 1))
			continue
		}
		w.polls(i, frontier)
	}
	w.together()
}

func TestFrontBehindEachCommand(t *testing.T) { // P25.1: poll's Front is the frontier of the out's node, behind each advance and step
	p := outsAre(planOf(1, input(num), input(num), concat(0, 1), counts(2, 1), joins(3, 0, 1)), 4, 3, 2, 1, 0)
	w := installed(t, "front", p)
	x := chance(77)
	for i := range 200 {
		at := x.below(2)
		frontier, _ := w.f.Frontier(at)
		switch x.below(4) {
		case 0:
			w.does(advance(at, drawFurther(&x, frontier)...))
		case 1:
			w.do(insert(at, up(r(x.below(3)), drawTime(&x, frontier).Epoch, 3, 1)))
		default:
			w.does(step(2+x.below(3), 1+x.below(2)))
		}
		for out, node := range p.Outs {
			want, _ := w.g.Flow().Frontier(node)
			if reply := w.does(poll(out)); !slices.Equal(reply.Front, want) {
				t.Fatalf("command %d: out %d: %v, want %v", i, out, reply.Front, want)
			}
		}
	}
}

func TestPeek(t *testing.T) { // P25.1: at a time just closed, at one just open, behind what was compacted
	w := installed(t, "peek", planOf(9, input(num), arrange(0, 1)))
	w.puts(0, up(r(5), 2, 2, 3), up(r(4), 0, 0, -1))
	w.refuses(peek(1, pair(0, 0)), api.ErrOpen)
	w.moves(0, pair(2, 4), pair(4, 2))
	w.refuses(peek(1, pair(0, 0)), api.ErrOpen) // what waits may come there
	w.leaves(1, 2, 0)
	five, four := count(3, r(5)), count(-1, r(4))
	w.sees(1, pair(0, 0), four)
	w.sees(1, pair(1, api.MaxTime), four)
	w.sees(1, pair(2, 3), four, five)
	w.sees(1, pair(3, 3), four, five)
	for _, open := range times(pair(2, 4), pair(4, 2), pair(9, 9), pair(-1, 0), pair(0, api.MaxTime+1), pair(low, high)) {
		w.refuses(peek(1, open), api.ErrOpen)
	}
	w.does(compact(1, pair(2, 2)))
	w.sees(1, pair(2, 2), four, five)
	w.refuses(peek(1, pair(2, 1)), api.ErrCompacted)
	w.refuses(peek(1, pair(0, 0)), api.ErrCompacted)
	w.does(compact(1, pair(2, 2)))
	w.does(compact(1, pair(3, 3)))
	w.refuses(peek(1, pair(2, 3)), api.ErrCompacted)
	w.sees(1, pair(3, 3), four, five)
	w.does(compact(1))
	w.refuses(peek(1, pair(3, 3)), api.ErrCompacted)
}

func TestPeekOfTooMuch(t *testing.T) { // P25.1: what lower layers tell; a peek lets nothing fail
	w := installed(t, "over", planOf(9, input(num), arrange(0, 1)))
	w.puts(0, up(r(1), 0, 0, high), up(r(1), 0, 1, 1), up(r(1), 0, 2, -5))
	w.leaves(1, 3, 0)
	w.moves(0, pair(1, 1))
	w.sees(1, pair(0, 0), count(high, r(1)))
	w.refuses(peek(1, pair(0, 1)), api.ErrOver)
	w.sees(1, pair(0, 0), count(high, r(1)))
	w.polls(0, times(pair(1, 1)), up(r(1), 0, 0, high), up(r(1), 0, 1, 1), up(r(1), 0, 2, -5))
}

func TestPlan(t *testing.T) { // P25.2: the plan that is installed, with all its lists
	for name, p := range map[string]api.Plan{
		"every kind": everyKind(),
		"alone":      planOf(1, input()),
		"texts":      planOf(api.MaxRoom, input(text), mapped(0, of(api.OpCat, col(0), []api.Term{{Op: api.OpStr, Str: "\xff\x00"}}), number(low)), filter(1, of(api.OpLess, col(1), number(high)))),
		"fields that play no part": {Nodes: []api.Node{{Kinds: []int{num}, Exprs: [][]api.Term{{}, {{Op: 77, Int: low, Str: "x"}}}, Cols: []int{9, -9}, Key: -5, N: high, Size: low, Slide: 3},
			{Kind: api.NodeNegate, Ins: []int{0}, Kinds: []int{7}, Key: 99}}, Outs: []int{1, 1, 0}, Room: 2},
	} {
		w := installed(t, name, p)
		w.p = copiedPlan(p)
		w.hold("installed")
		w.do(insert(0, up(r(1), 0, 0, 1)))
		w.does(step(len(p.Nodes)-1, 3))
		w.hold("behind others")
	}
}

func TestQuiet(t *testing.T) { // P25.2: is a plan installed, and its flow quiet?
	w := watch(t, "quiet")
	if w.g.Quiet() {
		t.Fatal("without a plan")
	}
	w.refuses(install(planOf(0, input(num))), api.ErrArg)
	if w.g.Quiet() {
		t.Fatal("without a plan")
	}
	w.does(install(planOf(3, input(num), counts(0, 1))))
	w.isQuiet(true)
	w.puts(0, up(r(1), 0, 0, 1))
	w.isQuiet(false)
	w.leaves(1, 1, 0)
	w.isQuiet(true) // it is to do, but not due
	w.moves(0, pair(1, 1))
	w.isQuiet(false)
	w.leaves(1, 1, 0)
	w.settle(1)
	w.isQuiet(true)
}

func TestFlow(t *testing.T) { // P25.2: always the same one, to be read
	w := watch(t, "flow")
	if w.g.Flow() != nil {
		t.Fatal("there is a flow, without a plan")
	}
	w.does(install(busyPlan()))
	f := w.g.Flow()
	for i, c := range busyCommands() {
		w.does(c)
		if w.g.Flow() != f {
			t.Fatalf("command %d: it is another flow", i)
		}
	}
	if frontier, e := f.Frontier(6); e != api.OK || !slices.Equal(frontier, mustFrontier(w.f, 6)) {
		t.Fatalf("%v, error %d", frontier, int(e))
	}
}

func TestFieldsThatAreNotUsed(t *testing.T) { // P25.1: set to anything, lists that may not be among them: the same answer
	for i := range 40 {
		x := chance(700 + i)
		p := drawPlan(&x, 3+x.below(8))
		w := watch(t, fmt.Sprintf("plan %d, %+v", i, p))
		full := engine.New()
		try := func(c api.Cmd) {
			t.Helper()
			reply, err := w.do(c)
			other := filled(&x, c)
			got, gotErr := full.Do(other)
			if !sameReply(got, reply) || !slices.Equal(fault.All(gotErr), fault.All(err)) || !slices.Equal(fault.Ops(gotErr), fault.Ops(err)) {
				t.Fatalf("%s: %s: %s, %v; %s: %s, %v", w.name, told(c), told(reply), fault.All(err), told(other), told(got), fault.All(gotErr))
			}
			if w.f != nil {
				if bad := flowFault(full.Flow(), w.f, w.p); bad != "" {
					t.Fatalf("%s: %s: %s", w.name, told(other), bad)
				}
			}
		}
		for do := range api.Cmds {
			try(api.Cmd{Do: do})
		}
		try(install(planOf(0, input(num))))
		try(install(p))
		for range 60 {
			try(w.drawCmd(&x))
		}
	}
}

package flow_test

import (
	"fmt"
	"slices"
	"testing"

	"runnel/api"
	"runnel/flow"
	"runnel/front"
	"runnel/plan"
	"runnel/spine"
)

func TestOneInputAlone(t *testing.T) { // P24.1, P24.2: as an out; nobody is its user
	for _, p := range []api.Plan{planOf(1, input(num)), outsAre(planOf(api.MaxRoom, input(num)), 0, 0, 0, 0, 0, 0, 0, 0)} {
		w := watch(t, fmt.Sprint("outs ", p.Outs), p)
		w.isQuiet(true)
		for i := range p.Outs {
			w.out(i)
		}
		l := ups(up(r(1), 3, 0, 1), up(r(1), 0, 3, -2), up(r(1), 3, 0, 1), up(r(0), 0, 0, 5))
		w.puts(0, l...)
		for i := range p.Outs {
			w.out(i, l...)
		}
		w.isQuiet(true)
		w.load(0, 0)
		w.steps(0, 5, 5)
		w.moves(0, pair(0, 4), pair(4, 0))
		w.frontier(0, pair(0, 4), pair(4, 0))
		if w.means(grid(6)) != 16*len(p.Outs) {
			t.Fatal("other times are closed")
		}
		w.refuses(0, up(r(1), 3, 3, 1), api.ErrTime)
		w.puts(0, up(r(2), 4, 0, 1))
		w.moves(0)
		w.frontier(0)
		w.refuses(0, up(r(1), 9, 9, 1), api.ErrTime)
		w.means(grid(6))
		w.settle(1)
	}
}

func TestInputThatHasNoColumn(t *testing.T) { // P24.2: rows of no value
	w := watch(t, "no column", planOf(3, input(), counts(0, 0)))
	w.puts(0, up(nil, 0, 0, 2), up(api.Row{}, 0, 0, 1))
	w.refuses(0, up(r(1), 0, 0, 1), api.ErrType)
	w.moves(0, pair(1, 0))
	w.settle(2)
	w.out(0, up(r(3), 0, 0, 1))
}

func TestOutsByNumber(t *testing.T) { // P24.5: the i-th of Outs, whichever node it is; one that is named twice, one that is an input, one that has users
	p := outsAre(planOf(9, input(num), negate(0), consolidate(1), project(1)), 2, 0, 1, 2, 3, 0)
	w := watch(t, "outs", p)
	in := ups(up(r(5), 0, 0, 1), up(r(5), 0, 0, 2))
	w.puts(0, in...)
	neg := ups(up(r(5), 0, 0, -1), up(r(5), 0, 0, -2))
	w.steps(1, 2, 0)
	w.moves(0, pair(1, 1))
	w.settle(1)
	none := ups(up(nil, 0, 0, -1), up(nil, 0, 0, -2))
	for i, want := range [][]api.Up{ups(up(r(5), 0, 0, -3)), in, neg, ups(up(r(5), 0, 0, -3)), none, in} {
		w.out(i, want...)
	}
	w.means(grid(3))
}

func TestOneInTwice(t *testing.T) { // P24.1, P24.2: a queue for each of Ins: handed on as often as it is a user, in order
	w := watch(t, "concat", planOf(2, input(num), concat(0, 0, 0)))
	w.puts(0, up(r(1), 0, 0, 1), up(r(2), 0, 0, 1))
	w.load(6, 0)
	w.steps(1, 6, 0) // each queue by itself, the first one first
	w.out(0, up(r(1), 0, 0, 1), up(r(2), 0, 0, 1), up(r(1), 0, 0, 1), up(r(2), 0, 0, 1), up(r(1), 0, 0, 1), up(r(2), 0, 0, 1))
	w.moves(0, pair(1, 0))
	w.settle(1)
	w.means(grid(2))

	w = watch(t, "join", planOf(2, input(num, num), joins(0, 0, 1)))
	w.puts(0, up(r(1, 5), 0, 0, 1), up(r(1, 6), 0, 0, 1))
	w.load(4, 0)
	w.steps(1, 2, 0)
	w.load(2, 2)
	w.steps(1, 1, 0) // (1 5) of side 1 meets both of side 0
	w.load(3, 3)
	w.moves(0, pair(1, 0))
	w.settle(1)
	w.out(0, up(r(1, 5, 5), 0, 0, 1), up(r(1, 6, 5), 0, 0, 1), up(r(1, 5, 6), 0, 0, 1), up(r(1, 6, 6), 0, 0, 1))
	w.means(grid(2))

	w = watch(t, "among others", planOf(2, input(num), input(num), concat(1, 0, 1)))
	w.puts(0, up(r(0), 0, 0, 1))
	w.puts(1, up(r(1), 0, 0, 1), up(r(2), 0, 0, 1))
	w.steps(2, 5, 0)
	w.out(0, up(r(1), 0, 0, 1), up(r(2), 0, 0, 1), up(r(0), 0, 0, 1), up(r(1), 0, 0, 1), up(r(2), 0, 0, 1))
}

func TestSeveralUsers(t *testing.T) { // P24.2: each is handed each change, and the outs too
	p := outsAre(planOf(3, input(num), negate(0), concat(0, 1, 0), arrange(0, 1), project(1, 0, 0), joins(1, 0, 1)), 2, 3, 4, 5, 1)
	w := watch(t, "several", p)
	for i := range 5 {
		w.puts(0, up(r(i%2), i, 0, i+1), up(r(7), 0, i, -1))
		w.load((i+1)*10, 0) // negate, concat twice, arrange, join
	}
	w.moves(0, pair(9, 9))
	w.settle(1)
	if w.means(grid(6)) != 180 {
		t.Fatal("it is not all closed")
	}
	w.out(1, up(r(0), 0, 0, 1), up(r(7), 0, 0, -1), up(r(1), 1, 0, 2), up(r(7), 0, 1, -1), up(r(0), 2, 0, 3), up(r(7), 0, 2, -1), up(r(1), 3, 0, 4), up(r(7), 0, 3, -1), up(r(0), 4, 0, 5), up(r(7), 0, 4, -1))
	for at, many := range []int{5, 3} {
		if got := plan.Users(p, at); len(got) != many {
			t.Fatalf("node %d has %d users", at, len(got))
		}
	}
}

func TestRoom(t *testing.T) { // P24.4: a node stands still while the queue of one of its users is not Open, and goes on behind it
	for _, room := range []int{1, 2, 3, 5} {
		w := watch(t, fmt.Sprint("room ", room), outsAre(planOf(room, input(num), concat(0), negate(1), project(1, 0)), 2, 3))
		for i := range 8 { // an input is not asked for room
			w.puts(0, up(r(i), 0, 0, 1))
		}
		w.load(8, 0)
		w.steps(1, 20, 20-room)
		w.steps(1, 20, 20)
		w.load(8+room, 0)
		w.steps(2, 20, 20-room) // one user has room again, the other one has not
		w.steps(1, 20, 20)
		w.isQuiet(false)
		w.steps(3, 1, 0) // now there is room for one
		w.steps(1, 20, 19)
		w.steps(1, 20, 20)
		w.settle(1)
		w.moves(0, pair(1, 0))
		w.frontier(3, pair(1, 0))
		w.means(grid(2))
	}
}

func TestRoomOfEachKind(t *testing.T) { // P24.4: no kind of node has a turn while its user has no room, whatever it is that it would do; its spines' work goes on
	for _, k := range eachKind() {
		w := watch(t, k.name, planOf(1, input(k.kinds...), k.node, concat(1)))
		w.puts(0, k.in...)
		w.moves(0, pair(9, 9))
		stood := 0
		for range k.turns {
			if w.m.isOpen(1) {
				w.steps(1, 1, 0)
				continue
			}
			stood++
			waiting, _ := w.f.Load()
			w.step(1, 1000)
			w.hold("a node whose user has no room")
			if now, _ := w.f.Load(); now != waiting {
				t.Fatalf("%s: %d waited, now %d do", k.name, waiting, now)
			}
			w.isQuiet(false)
			for !w.m.isOpen(1) {
				w.steps(2, 1, 0)
			}
		}
		if stood == 0 {
			t.Fatalf("%s: its user always had room", k.name)
		}
		w.settle(1)
		w.out(0, k.want...)
	}
}

func TestRoomOfAJoin(t *testing.T) { // P24.4: neither is handed on what waits, nor is accepted what is in the queues
	w := watch(t, "join", planOf(1, input(num), joins(0, 0, 0), negate(1)))
	w.puts(0, up(r(1), 0, 0, 1), up(r(2), 0, 0, 1), up(r(3), 0, 0, 1))
	w.steps(1, 4, 0) // three of side 0, one of side 1, which meets them
	w.load(5, 4)
	w.steps(1, 1, 0)
	w.steps(1, 1, 0) // its user has no room: what is left is the spines'
	w.load(5, 4)
	w.step(1, 100)
	w.load(5, 4)
	w.hold("work")
	w.steps(2, 1, 0)
	w.steps(1, 1, 0)
	w.load(4, 4)
	w.settle(1)
}

func TestMoreThanRoomAtOnce(t *testing.T) { // P24.4: one turn may hand on more than there is room for
	w := watch(t, "windows", planOf(2, input(num), bucket(0, 0, 64, 1), negate(1)))
	w.puts(0, up(r(100), 0, 0, 1), up(r(200), 0, 0, 1))
	w.steps(1, 9, 8)
	w.load(65, 0)
	w.steps(1, 9, 9)
	w.steps(2, 62, 0)
	w.steps(1, 9, 9) // two are not fewer than the room
	w.steps(2, 1, 0)
	w.steps(1, 9, 8) // one is
	w.load(65, 0)
	w.moves(0, pair(1, 0))
	w.settle(3)
	if l, _ := w.f.Out(0); len(l) != 128 || l[0].Row[1].Int != 37 || l[127].Row[1].Int != 200 {
		t.Fatalf("%d came", len(l))
	}
	w.means(grid(2))
	w = watch(t, "a fold", planOf(1, input(num), folds(api.NodeTop, 0, 0, 9), negate(1)))
	w.puts(0, up(r(1), 0, 0, 1), up(r(2), 0, 0, 1), up(r(3), 0, 0, 1))
	w.moves(0, pair(1, 0))
	w.steps(1, 4, 0)
	w.load(3, 6)
	w.settle(1)
}

func TestFuel(t *testing.T) { // P24.4: none, below 0, one, just enough, more than enough: one for each turn, and what is left is the spines'
	ready := func(kind int) *watched {
		w := watch(t, fmt.Sprint("kind ", kind), planOf(9, input(num), folds(kind, 0, 1, 1)))
		for i := range 5 {
			w.puts(0, up(r(i), 0, 0, 1))
		}
		w.moves(0, pair(1, 0))
		return w
	}
	for kind, turns := range map[int]int{api.NodeNegate: 5, api.NodeConsolidate: 10, api.NodeArrange: 5, api.NodeDistinct: 10, api.NodeCount: 10, api.NodeTop: 10} {
		w := ready(kind)
		rest, _ := w.step(1, 1000)
		all := 1000 - rest
		if all < turns {
			t.Fatalf("kind %d: only %d", kind, all)
		}
		if isNoSpine := kind == api.NodeNegate || kind == api.NodeConsolidate; isNoSpine != (all == turns) {
			t.Fatalf("kind %d: %d turns, %d in all", kind, turns, all)
		}
		for _, fuel := range []int{low, -1000, -1, 0} {
			w := ready(kind)
			before := w.again()
			w.steps(1, fuel, 0)
			waiting, stored := before.Load()
			w.load(waiting, stored)
			w.out(0)
		}
		for fuel := 1; fuel <= all+3; fuel++ {
			w := ready(kind)
			w.step(1, fuel)
			w.hold("Step")
			if waiting, _ := w.f.Load(); waiting != max(0, 5-fuel) {
				t.Fatalf("kind %d with %d: %d wait", kind, fuel, waiting)
			}
			if done := fuel >= turns; done != w.m.didAll(1) {
				t.Fatalf("kind %d with %d: is all done? %v", kind, fuel, w.m.didAll(1))
			}
			if fuel >= all+1 {
				w.isQuiet(true)
				w.steps(1, fuel, fuel)
			}
			if fuel < all && w.quiet() {
				t.Fatalf("kind %d with %d of %d: it is quiet", kind, fuel, all)
			}
		}
		w = ready(kind)
		w.steps(1, high, high-all)
		w.isQuiet(true)
	}
}

// didAll: has a node no turn any more?
func (m *model) didAll(at int) bool {
	for _, q := range m.queues[at] {
		if len(q) > 0 {
			return false
		}
	}
	return m.holds[at].Len() == 0 && m.joins[at].Len() == 0 && m.folds[at].Todo() == 0
}

func TestStepWithoutSpines(t *testing.T) { // P24.4: what is left is left; an input has no turns
	w := watch(t, "left", planOf(9, input(num), input(num), concat(0, 1), consolidate(2)))
	w.puts(0, up(r(1), 0, 0, 1))
	for _, fuel := range []int{low, -1, 0, 1, 2, 77, high} {
		for _, at := range []int{0, 1, 3} {
			w.steps(at, fuel, max(fuel, 0))
		}
	}
	w.steps(2, 77, 76)
	w.steps(2, high, high)
	w.steps(3, high, high-1)
	w.moves(0, pair(1, 1))
	w.steps(3, 5, 5) // the other input holds it back
	w.moves(1, pair(2, 2))
	w.steps(3, 5, 4)
	w.steps(3, 5, 5)
}

func TestJoinsOrder(t *testing.T) { // P24.4: what waits is handed on ahead of what is accepted; the first queue that has one goes first
	w := watch(t, "order", planOf(9, input(num, num), input(num, num), joins(0, 1, 1)))
	w.puts(1, up(r(1, 1), 0, 0, 1), up(r(1, 2), 0, 0, 1))
	w.puts(0, up(r(1, 8), 0, 0, 1), up(r(1, 9), 0, 0, 1))
	for _, want := range [][]int{{2, 1}, {2, 0}} { // what is in the queues
		w.steps(2, 1, 0)
		if got := []int{len(w.m.queues[2][1]), len(w.m.queues[2][0])}; !slices.Equal(got, want) {
			t.Fatalf("%v are in the queues, want %v", got, want)
		}
	}
	w.steps(2, 1, 0) // (1 1) of side 1 meets two
	w.load(3, 3)
	w.puts(0, up(r(1, 7), 0, 0, 1))
	w.steps(2, 1, 0)
	w.out(0, up(r(1, 8, 1), 0, 0, 1))
	w.load(3, 3)
	w.steps(2, 1, 0)
	w.load(2, 3)
	w.steps(2, 1, 0) // now the first queue has one again
	w.load(2, 4)
	w.steps(2, 1, 0)
	w.out(0, up(r(1, 8, 1), 0, 0, 1), up(r(1, 9, 1), 0, 0, 1), up(r(1, 7, 1), 0, 0, 1))
	w.steps(2, 4, 0)
	w.out(0, up(r(1, 8, 1), 0, 0, 1), up(r(1, 9, 1), 0, 0, 1), up(r(1, 7, 1), 0, 0, 1), up(r(1, 7, 2), 0, 0, 1), up(r(1, 8, 2), 0, 0, 1), up(r(1, 9, 2), 0, 0, 1))
}

func TestConcatOrder(t *testing.T) { // P24.4: the first change of the first queue that has one
	w := watch(t, "order", planOf(9, input(num), input(num), input(num), concat(2, 0, 1)))
	for i := range 3 {
		for in := range 3 {
			w.puts(in, up(r(in, i)[:1], in, i, 1))
		}
	}
	w.steps(3, 4, 0)
	w.out(0, up(r(2), 2, 0, 1), up(r(2), 2, 1, 1), up(r(2), 2, 2, 1), up(r(0), 0, 0, 1))
	w.puts(2, up(r(9), 9, 9, 1))
	w.steps(3, 2, 0)
	w.out(0, up(r(2), 2, 0, 1), up(r(2), 2, 1, 1), up(r(2), 2, 2, 1), up(r(0), 0, 0, 1), up(r(9), 9, 9, 1), up(r(0), 0, 1, 1))
	w.settle(1)
}

func TestConsolidateOrder(t *testing.T) { // P24.4: it adds ahead of telling, and tells what is not in advance of the frontier of its in alone
	w := watch(t, "order", planOf(9, input(num), concat(0), consolidate(1)))
	w.puts(0, up(r(1), 0, 0, 1), up(r(2), 0, 0, 1), up(r(3), 1, 0, 1))
	w.steps(1, 9, 6)
	w.moves(0, pair(1, 0))
	w.steps(2, 2, 0)
	w.out(0) // one waits still in its queue, and is added first
	w.load(1, 2)
	w.steps(2, 1, 0)
	w.out(0)
	w.load(0, 3)
	w.frontier(2, pair(0, 0))
	w.steps(2, 1, 0)
	w.out(0, up(r(1), 0, 0, 1))
	w.frontier(2, pair(0, 0))
	w.steps(2, 5, 4) // (3) is at (1, 0), to which something may come yet
	w.out(0, up(r(1), 0, 0, 1), up(r(2), 0, 0, 1))
	w.frontier(2, pair(1, 0))
	w.load(0, 1)
	w.isQuiet(true)
	w.puts(0, up(r(3), 1, 0, -1), up(r(5), 4, 4, 1), up(r(4), 1, 1, 1))
	w.moves(0, pair(1, 2), pair(2, 0))
	w.steps(2, 5, 5) // what waits ahead keeps it back
	w.steps(1, 1, 0)
	w.steps(2, 5, 4) // of (3) nothing is left
	w.steps(1, 2, 0)
	w.frontier(1, pair(1, 2), pair(2, 0))
	w.steps(2, 9, 6) // (4) at (1, 1) is told, (5) at (4, 4) is held
	w.out(0, up(r(1), 0, 0, 1), up(r(2), 0, 0, 1), up(r(4), 1, 1, 1))
	w.isQuiet(true)
	w.frontier(2, pair(1, 2), pair(2, 0))
	w.moves(0)
	w.isQuiet(false)
	w.steps(2, 9, 8)
	w.frontier(2)
	w.isQuiet(true)
}

func TestFoldsOrder(t *testing.T) { // P24.4: each of distinct to top accepts ahead of a Step; a Step that tells nothing is a turn
	for kind := api.NodeDistinct; kind <= api.NodeTop; kind++ {
		w := watch(t, fmt.Sprint("kind ", kind), planOf(9, input(num), folds(kind, 0, 1, max(0, kind-api.NodeTop+1))))
		w.puts(0, up(r(1), 0, 0, 1), up(r(2), 0, 0, 1))
		w.moves(0, pair(1, 0))
		w.steps(1, 1, 0)
		w.load(1, 1)
		w.out(0)
		w.steps(1, 1, 0) // (1) is due, but (2) waits
		w.load(0, 2)
		w.out(0)
		w.steps(1, 1, 0)
		if l, _ := w.f.Out(0); len(l) != 1 || l[0].Row[0].Int != 1 {
			t.Fatalf("kind %d: %v came", kind, l)
		}
		w.frontier(1, pair(0, 0))
		w.steps(1, 1, 0)
		w.frontier(1, pair(1, 0))
		w.step(1, 100)
		w.isQuiet(true)
		w.puts(0, up(r(1), 1, 0, 1), up(r(1), 1, 0, -1)) // nothing changes
		w.steps(1, 2, 0)
		w.load(0, w.m.stored(1))
		w.moves(0, pair(2, 0))
		w.isQuiet(false)
		w.frontier(1, pair(1, 0))
		w.steps(1, 1, 0)
		if l, _ := w.f.Out(0); len(l) != 2 {
			t.Fatalf("kind %d: %v came", kind, l)
		}
		w.frontier(1, pair(2, 0))
		w.settle(1)
		w.means(grid(3))
	}
}

// stored is how many changes the spines of a node have.
func (m *model) stored(at int) int {
	many := 0
	for _, s := range m.spines(at) {
		many += len(s.Ups())
	}
	return many
}

func TestFoldsAreLookedAtWhereSomethingComesTogether(t *testing.T) { // P24.4, P24.6: at the join of two times at which no change came
	w := watch(t, "joins of times", planOf(9, input(num, num), counts(0, 1)))
	w.puts(0, up(r(1, 1), 0, 2, 1), up(r(1, 2), 2, 0, 1), up(r(1, 3), 1, 1, 1))
	w.moves(0, pair(3, 3))
	w.settle(1)
	w.out(0, up(r(1, 1), 0, 2, 1), up(r(1, 1), 1, 1, 1), up(r(1, 1), 1, 2, -2), up(r(1, 2), 1, 2, 1), up(r(1, 1), 2, 0, 1), up(r(1, 1), 2, 1, -2), up(r(1, 2), 2, 1, 1), up(r(1, 1), 2, 2, 1), up(r(1, 2), 2, 2, -2), up(r(1, 3), 2, 2, 1))
	if w.means(grid(5)) != 21 {
		t.Fatal("other times are closed")
	}
}

func TestWhatTakesOneAnotherAway(t *testing.T) { // P24.6: Diffs below 0, and rows that come together at a node
	w := watch(t, "away", outsAre(planOf(3, input(num), negate(0), concat(0, 1), consolidate(2), folds(api.NodeDistinct, 2, 0, 0), counts(2, 0), arrange(2, 1), joins(2, 0, 1)), 2, 3, 4, 5, 6, 7))
	for i := range 6 {
		w.puts(0, up(r(i%2), i%3, i%2, 3*i-7))
	}
	w.moves(0, pair(5, 5))
	w.settle(1)
	for i := 1; i < 6; i++ {
		list, _ := w.f.Out(i)
		if i != 4 && i != 5 && len(list) > 0 {
			t.Fatalf("out %d: %v", i, list)
		}
	}
	w.sees(6, pair(4, 4))
	w.means(grid(6))
	w = watch(t, "together", outsAre(planOf(3, input(num, num), project(0, 0), counts(1, 1), folds(api.NodeDistinct, 1, 0, 0), consolidate(1)), 2, 3, 4))
	w.puts(0, up(r(1, 1), 0, 0, 2), up(r(1, 2), 0, 0, -1), up(r(1, 3), 0, 1, -1), up(r(2, 1), 0, 0, -2))
	w.moves(0, pair(1, 1))
	w.settle(1)
	w.out(0, up(r(1, 1), 0, 0, 1), up(r(2, -2), 0, 0, 1), up(r(1, 1), 0, 1, -1))
	w.out(1, up(r(1), 0, 0, 1), up(r(1), 0, 1, -1))
	w.out(2, up(r(1), 0, 0, 1), up(r(2), 0, 0, -2), up(r(1), 0, 1, -1))
	w.means(grid(3))
}

func TestFrontiersOfSeveralInputs(t *testing.T) { // P24.3: several times, of inputs that lead to a node in several ways
	p := planOf(9, input(num), input(num), input(num), concat(0, 1), negate(1), concat(4, 3, 0), joins(5, 2, 0))
	w := watch(t, "several", p)
	w.moves(0, pair(0, 4), pair(4, 0))
	w.frontier(3, pair(0, 0))
	w.frontier(6, pair(0, 0))
	w.moves(1, pair(1, 3), pair(3, 1))
	w.frontier(3, pair(0, 4), pair(1, 3), pair(3, 1), pair(4, 0))
	w.frontier(4, pair(1, 3), pair(3, 1))
	w.frontier(5, pair(0, 4), pair(1, 3), pair(3, 1), pair(4, 0))
	w.frontier(6, pair(0, 0))
	w.moves(2, pair(2, 2))
	w.frontier(6, pair(0, 4), pair(1, 3), pair(2, 2), pair(3, 1), pair(4, 0))
	w.moves(0)
	w.frontier(5, pair(1, 3), pair(3, 1))
	w.frontier(6, pair(1, 3), pair(2, 2), pair(3, 1))
	w.puts(1, up(r(1), 3, 3, 1), up(r(1), 3, 1, 1))
	w.frontier(5, pair(1, 3), pair(3, 1))
	w.moves(1)
	w.frontier(1)
	w.frontier(3, pair(3, 1)) // they wait there
	w.frontier(4, pair(3, 1))
	w.frontier(6, pair(2, 2), pair(3, 1))
	w.steps(3, 1, 0)
	w.frontier(3, pair(3, 1))
	w.steps(3, 1, 0)
	w.frontier(3)
	w.frontier(4, pair(3, 1))
	w.steps(4, 9, 7)
	w.frontier(4)
	w.frontier(5, pair(3, 1)) // and there
	w.steps(5, 9, 5)
	w.frontier(5)
	w.frontier(6, pair(2, 2), pair(3, 1))
	w.steps(6, 9, 1) // four are accepted, and four are merged
	w.frontier(6, pair(2, 2))
	w.moves(2)
	w.frontier(6)
	w.settle(1)
	if w.means(grid(5)) != 25 {
		t.Fatal("it is not all closed")
	}
}

func TestFrontierTurnByTurn(t *testing.T) { // P24.3: of what waits in the queues, is held, waits in a join, is to do in a fold
	w := watch(t, "turn by turn", planOf(9, input(num), joins(0, 0, 1), consolidate(1), counts(2, 1)))
	w.puts(0, up(r(1), 0, 3, 1), up(r(1), 3, 0, 1))
	w.moves(0, pair(5, 5))
	first := times(pair(0, 3), pair(3, 0))
	frontiers := func(l ...[]api.Time) {
		t.Helper()
		for i, want := range l {
			w.frontier(i+1, want...)
		}
	}
	frontiers(first, first, first)
	w.steps(1, 2, 0) // side 0
	frontiers(first, first, first)
	w.steps(1, 1, 0) // (1) at (0, 3) meets both: at (0, 3) and (3, 3)
	frontiers(first, first, first)
	w.steps(1, 1, 0)
	frontiers(times(pair(3, 0)), first, first)
	w.steps(1, 1, 0)
	frontiers(times(pair(3, 0)), first, first)
	w.steps(2, 2, 0)
	frontiers(times(pair(3, 0)), first, first) // both are held
	w.steps(2, 1, 0)
	frontiers(times(pair(3, 0)), times(pair(3, 0)), first)
	w.steps(2, 1, 1) // (3, 3) is in advance of (3, 0)
	w.steps(3, 2, 0)
	frontiers(times(pair(3, 0)), times(pair(3, 0)), times(pair(3, 0)))
	w.out(0, up(r(1, 1), 0, 3, 1))
	w.steps(1, 1, 0) // the other one of side 1
	frontiers(times(pair(3, 0)), times(pair(3, 0)), times(pair(3, 0)))
	w.steps(1, 1, 0)
	w.steps(1, 1, 0)
	frontiers(times(pair(5, 5)), times(pair(3, 0)), times(pair(3, 0)))
	w.steps(2, 4, 0)
	frontiers(times(pair(5, 5)), times(pair(5, 5)), times(pair(3, 0)))
	w.steps(3, 2, 0) // both are to do, at (3, 0) and (3, 3)
	frontiers(times(pair(5, 5)), times(pair(5, 5)), times(pair(3, 0)))
	w.steps(3, 1, 0)
	frontiers(times(pair(5, 5)), times(pair(5, 5)), times(pair(3, 3)))
	w.steps(3, 1, 0)
	frontiers(times(pair(5, 5)), times(pair(5, 5)), times(pair(5, 5)))
	w.means(grid(6))
}

func TestAdvance(t *testing.T) { // P24.2: to the same, to as many times as may be, to none, and Steps behind it
	for _, k := range eachKind() {
		w := watch(t, k.name, planOf(9, input(k.kinds...), k.node))
		w.moves(0, pair(0, 0))
		w.puts(0, k.in...)
		w.moves(0, pair(0, 0))
		w.step(1, 3)
		w.hold("Step")
		many := stairs(pair(2, 0), api.MaxGiven)
		w.moves(0, many...)
		w.frontier(0, many...)
		w.moves(0, many...)
		w.refuses(0, up(r(1, 1), 1, 99, 1), api.ErrTime)
		for _, x := range []api.Time{many[0], many[7], many[15], pair(17, 1)} {
			w.puts(0, up(r(1, 4), x.Epoch, x.Round, 1))
		}
		w.settle(2)
		w.frontier(1, many...)
		if w.means(grid(4)) != 4*4 {
			t.Fatal("other times are closed")
		}
		w.moves(0)
		w.frontier(0)
		w.settle(1)
		w.frontier(1)
		w.moves(0)
		w.stays(0, times(pair(0, 0)), api.ErrTime)
		w.stays(0, times(pair(api.MaxTime, api.MaxTime)), api.ErrTime)
		w.refuses(0, up(r(1, 1), api.MaxTime, api.MaxTime, 1), api.ErrTime)
		w.steps(1, 7, 7)
		if w.means(grid(20)) != 400 {
			t.Fatal("it is not all closed")
		}
	}
}

func TestGreatestTimes(t *testing.T) { // P24.2: MaxTime itself may be
	w := watch(t, "greatest", planOf(9, input(num), counts(0, 0)))
	w.puts(0, up(r(1), api.MaxTime, 0, 1), up(r(1), 0, api.MaxTime, 1), up(r(1), api.MaxTime, api.MaxTime, 1))
	w.refuses(0, up(r(1), api.MaxTime+1, 0, 1), api.ErrTime)
	w.refuses(0, up(r(1), 0, api.MaxTime+1, 1), api.ErrTime)
	w.moves(0, pair(api.MaxTime, api.MaxTime))
	w.settle(1)
	w.moves(0)
	w.settle(1)
	if w.means([]api.Time{pair(api.MaxTime, api.MaxTime), pair(api.MaxTime, 0), pair(0, api.MaxTime), pair(5, 5)}) != 4 {
		t.Fatal("it is not all closed")
	}
}

func TestWhereJoinsAreAdvanced(t *testing.T) { // P24.4: each side by its own in: to the frontier of that and to what waits in its queue
	w := watch(t, "join", planOf(9, input(num), input(num), concat(0), joins(2, 1, 1)))
	w.since(3, times(pair(0, 0)), times(pair(0, 0)))
	w.moves(0, pair(1, 5), pair(5, 1))
	w.since(3, times(pair(0, 0)), times(pair(0, 0))) // not ahead of its turn
	w.steps(2, 5, 5)
	w.since(3, times(pair(0, 0)), times(pair(0, 0)))
	w.steps(3, 1, 1)
	w.since(3, times(pair(0, 0)), times(pair(1, 5), pair(5, 1)))
	w.puts(1, up(r(1), 0, 7, 1), up(r(1), 2, 2, 1))
	w.moves(1, pair(2, 6))
	w.steps(3, 1, 0) // (1) at (0, 7) is accepted, (2, 2) waits
	w.since(3, times(pair(2, 2)), times(pair(1, 5), pair(5, 1)))
	w.puts(0, up(r(2), 9, 1, 1))
	w.moves(0, pair(9, 9))
	w.steps(3, 1, 0) // that waits ahead of the concat
	w.since(3, times(pair(2, 6)), times(pair(9, 1)))
	w.steps(2, 1, 0)
	w.steps(3, 1, 0)
	w.since(3, times(pair(2, 6)), times(pair(9, 9)))
	w.moves(1)
	w.steps(3, 100, 95)
	w.since(3, nil, times(pair(9, 9)))
	w.moves(0)
	w.steps(3, 0, 0) // also with no fuel
	w.since(3, nil, nil)
	w.settle(1)
}

func TestWhereFoldsAreAdvanced(t *testing.T) { // P24.4: to the frontier of its in and to what waits in its queue; what is to do keeps its spines back
	w := watch(t, "fold", planOf(9, input(num), concat(0), counts(1, 1)))
	both := func(l ...api.Time) {
		t.Helper()
		w.since(2, l, l)
	}
	both(pair(0, 0))
	w.moves(0, pair(1, 3), pair(3, 1))
	both(pair(0, 0))
	w.steps(2, 1, 1)
	both(pair(1, 3), pair(3, 1))
	w.puts(0, up(r(1), 1, 4, 1), up(r(1), 4, 2, 1))
	w.moves(0, pair(5, 5))
	w.steps(2, 1, 1) // they wait ahead of the concat
	both(pair(1, 4), pair(4, 2))
	w.steps(1, 9, 7)
	w.steps(2, 1, 0) // (4, 2) waits, (1, 4) is to do
	both(pair(1, 4), pair(4, 2))
	w.steps(2, 1, 0) // (1, 4), (4, 2), (4, 4) are to do
	both(pair(1, 4), pair(4, 2))
	w.steps(2, 1, 0)
	both(pair(4, 2))
	w.steps(2, 1, 0)
	both(pair(4, 4))
	w.steps(2, 1, 0)
	both(pair(5, 5))
	w.moves(0)
	w.steps(2, 0, 0)
	both()
	w.settle(1)
}

// wide is a flow of so many inputs, one behind the other, that lead to a fold and to a join, both with Key 0.
func wide(t *testing.T, inputs int) *watched {
	t.Helper()
	var p api.Plan
	var last []int
	for i := range inputs {
		p.Nodes = append(p.Nodes, input(num))
		last = append(last, i)
	}
	for len(last) > 1 {
		some := last[:min(len(last), api.MaxIns)]
		p.Nodes = append(p.Nodes, concat(some...))
		last = append(slices.Clone(last[len(some):]), len(p.Nodes)-1)
	}
	p.Nodes = append(p.Nodes, counts(last[0], 0), joins(last[0], last[0], 0))
	p.Room, p.Outs = 9, []int{len(p.Nodes) - 2, len(p.Nodes) - 1}
	return watch(t, fmt.Sprint(inputs, " inputs"), p)
}

func TestMoreTimesThanAFrontierMayHave(t *testing.T) { // P24.3, P24.4: a frontier that is told may have more; joins and folds stay until there are fewer
	w := wide(t, 2)
	fold, join := w.m.p.Outs[0], w.m.p.Outs[1]
	list := stairs(pair(1, 1), api.MaxFront+2)
	for _, x := range list {
		w.insert(0, api.Up{Row: r(1), Time: x, Diff: 1})
	}
	w.hold("inserted")
	w.moves(0, pair(5000, 5000))
	w.moves(1, pair(5000, 5000))
	w.frontier(2, list...)
	w.steps(fold, 5, 5)
	w.steps(join, 5, 5)
	stays := times(pair(0, 0))
	w.since(fold, stays, stays)
	w.since(join, stays, stays)
	w.steps(2, 1, 0) // what was handed on waits in the queue: together they are as many as before
	w.steps(fold, 1, 0)
	w.since(fold, stays, stays)
	w.steps(join, 0, 0)
	w.since(join, stays, stays)
	w.steps(join, 1, 0) // of side 0 one is accepted: there are as many as before but one
	w.since(join, stays, stays)
	w.steps(2, 1, 0)
	w.steps(join, 1, 0) // now there are just as many as may be
	w.since(join, stays, list[2:])
	w.steps(join, 2, 0) // and of side 1: ahead of the second turn there are two fewer
	w.since(join, stays, list[2:])
	w.frontier(fold, list...)
	w.hold("behind it")
}

func TestAsManyTimesAsInputsMayHave(t *testing.T) { // P24.8: of all inputs that a plan may have, with as many times as each may have: when it is quiet joins and folds stand there
	w := wide(t, 53)
	fold, join := w.m.p.Outs[0], w.m.p.Outs[1]
	var all []api.Time
	steps := stairs(pair(1, 1), 53*api.MaxGiven)
	for i := range 53 {
		var own []api.Time
		for j := range api.MaxGiven {
			own = append(own, steps[i+53*j])
		}
		all = append(all, own...)
		if e := w.advance(i, own); e != api.OK {
			t.Fatalf("error %d", int(e))
		}
	}
	all = least(all)
	if len(all) != 53*api.MaxGiven || len(all) > api.MaxFront {
		t.Fatalf("%d times", len(all))
	}
	for i, x := range []api.Time{steps[0], steps[400], steps[847]} {
		if e := w.insert([]int{0, 400 % 53, 847 % 53}[i], api.Up{Row: r(1), Time: x, Diff: 1}); e != api.OK {
			t.Fatalf("error %d", int(e))
		}
	}
	for !w.quiet() {
		for at := range w.m.p.Nodes {
			w.step(at, 9)
		}
	}
	w.frontier(fold, all...)
	w.since(fold, all, all)
	w.since(join, all, all)
}

func TestCompact(t *testing.T) { // P24.5: to the same, to further ones, ahead of what is open, to that of no time
	w := watch(t, "compact", planOf(9, input(num), concat(0), arrange(1, 1), counts(2, 1)))
	w.since(2, times(pair(0, 0)))
	w.puts(0, up(r(1), 0, 0, 1), up(r(1), 1, 0, 1), up(r(2), 1, 1, 1))
	w.steps(1, 9, 6)
	w.steps(2, 3, 0)
	w.moves(0, pair(3, 0))
	w.forgets(2, times(pair(0, 0)), api.OK)
	w.since(2, times(pair(0, 0)))
	w.sees(2, pair(0, 0), count(1, r(1)))
	w.forgets(2, times(pair(0, 1), pair(1, 0)), api.OK)
	w.since(2, times(pair(0, 1), pair(1, 0)))
	w.peekFails(2, pair(0, 0), api.ErrCompacted)
	w.sees(2, pair(0, 1), count(1, r(1)))
	w.sees(2, pair(1, 0), count(2, r(1)))
	w.isQuiet(false) // what it has is told apart too well now
	w.settle(1)
	w.sees(2, pair(0, 1), count(1, r(1)))
	w.sees(2, pair(2, 9), count(2, r(1)), count(1, r(2)))
	w.forgets(2, times(pair(0, 0)), api.ErrTime)
	w.forgets(2, times(pair(0, 5)), api.OK)
	w.forgets(2, times(pair(0, 5)), api.OK)
	w.forgets(2, times(pair(5, 5)), api.OK) // ahead of what is open
	w.peekFails(2, pair(2, 9), api.ErrCompacted)
	w.peekFails(2, pair(5, 5), api.ErrOpen)
	w.puts(0, up(r(3), 3, 0, 1), up(r(3), 7, 7, 1))
	w.settle(1)
	w.moves(0, pair(8, 8))
	w.settle(1)
	w.sees(2, pair(5, 5), count(2, r(1)), count(1, r(2)), count(1, r(3)))
	w.sees(2, pair(7, 7), count(2, r(1)), count(1, r(2)), count(2, r(3)))
	w.forgets(2, stairs(pair(6, 6), api.MaxGiven), api.OK)
	w.peekFails(2, pair(7, 7), api.ErrCompacted)
	w.forgets(2, nil, api.OK)
	w.since(2, nil)
	w.peekFails(2, pair(7, 7), api.ErrCompacted)
	w.peekFails(2, pair(0, 0), api.ErrCompacted)
	w.peekFails(2, pair(8, 8), api.ErrOpen)
	w.forgets(2, []api.Time{}, api.OK)
	w.forgets(2, times(pair(9, 9)), api.ErrTime)
	w.puts(0, up(r(4), 8, 8, 1))
	w.settle(1)
	w.means(grid(9))
}

func TestPeek(t *testing.T) { // P24.5: at a time just closed, at one just open, beside the frontier, behind what was compacted
	w := watch(t, "peek", planOf(9, input(num), arrange(0, 1), arrange(1, 0)))
	w.puts(0, up(r(5), 2, 2, 3), up(r(4), 0, 0, -1))
	w.peekFails(1, pair(0, 0), api.ErrOpen)
	w.moves(0, pair(2, 4), pair(4, 2))
	for _, open := range times(pair(0, 0), pair(2, 2), pair(3, 3), pair(0, 9), pair(9, 9)) { // what waits may come to these
		w.peekFails(1, open, api.ErrOpen)
	}
	w.steps(1, 2, 0)
	w.peekFails(2, pair(2, 2), api.ErrOpen)
	for _, open := range times(pair(2, 4), pair(4, 2), pair(2, 5), pair(3, 4), pair(4, 4), pair(5, 2), pair(api.MaxTime, api.MaxTime)) {
		w.peekFails(1, open, api.ErrOpen)
	}
	five, four := count(3, r(5)), count(-1, r(4))
	for _, closed := range times(pair(2, 3), pair(3, 2), pair(3, 3), pair(2, 2)) {
		w.sees(1, closed, four, five)
	}
	for _, closed := range times(pair(0, 0), pair(1, 9), pair(9, 1), pair(1, api.MaxTime), pair(api.MaxTime, 0)) {
		w.sees(1, closed, four)
	}
	for _, none := range times(pair(-1, 0), pair(0, -1), pair(-1, -1), pair(api.MaxTime+1, 0), pair(0, api.MaxTime+1), pair(low, low), pair(high, 0), pair(low, high)) {
		w.peekFails(1, none, api.ErrOpen)
	}
	w.forgets(1, times(pair(2, 2)), api.OK)
	for _, gone := range times(pair(0, 0), pair(1, 9), pair(9, 1), pair(2, 1), pair(1, 2)) {
		w.peekFails(1, gone, api.ErrCompacted)
	}
	w.sees(1, pair(2, 2), four, five)
	w.sees(1, pair(3, 3), four, five)
	w.peekFails(1, pair(2, 4), api.ErrOpen)
	w.steps(2, 2, 0)
	w.sees(2, pair(0, 0), four)
	w.peekFails(2, pair(4, 4), api.ErrOpen)
	w.moves(0)
	w.sees(1, pair(api.MaxTime, api.MaxTime), four, five)
	w.sees(2, pair(0, 0), four)
	w.settle(1)
	w.sees(1, pair(api.MaxTime, api.MaxTime), four, five)
}

func TestPeekOfTooMuch(t *testing.T) { // P24.5: trace.Peek's ErrOver is no failure
	w := watch(t, "over", planOf(9, input(num), arrange(0, 1)))
	w.puts(0, up(r(1), 0, 0, high), up(r(1), 0, 1, 1), up(r(1), 0, 2, -5))
	w.steps(1, 3, 0)
	w.moves(0, pair(1, 1))
	w.sees(1, pair(0, 0), count(high, r(1)))
	w.peekFails(1, pair(0, 1), api.ErrOver)
	w.sees(1, pair(0, 0), count(high, r(1)))
	if w.f.Failed() != api.OK {
		t.Fatal("it has failed")
	}
	w.settle(1)
	w.sees(1, pair(1, 0), count(high, r(1)))
}

func TestLoad(t *testing.T) { // P24.5: what waits in queues and joins, what is stored in spines and holds
	w := watch(t, "load", planOf(9, input(num), consolidate(0), arrange(1, 0), joins(2, 0, 1), counts(3, 1)))
	w.load(0, 0)
	w.puts(0, up(r(1), 0, 0, 1), up(r(1), 0, 0, 1), up(r(2), 0, 0, 1))
	w.load(6, 0) // of the consolidation, and of side 1
	w.steps(1, 2, 0)
	w.load(4, 1) // (1) twice is held
	w.steps(1, 1, 0)
	w.load(3, 2)
	w.moves(0, pair(1, 0))
	w.steps(1, 1, 0)
	w.load(4, 1) // (1) waits ahead of the arrangement
	w.steps(1, 1, 0)
	w.load(5, 0)
	w.steps(2, 1, 0)
	w.load(5, 1) // it is stored, and waits ahead of the join
	w.steps(2, 1, 0)
	w.load(5, 2)
	w.steps(3, 2, 0)
	w.load(3, 4) // side 0
	w.steps(3, 1, 0)
	w.load(3, 5) // and one that waits in the join
	w.steps(3, 1, 0)
	w.load(3, 5)
	w.steps(3, 5, 0)
	w.load(3, 7) // all wait ahead of the count: (1) +2 twice, (2) +1
	w.steps(4, 3, 0)
	w.load(0, 10)
	w.steps(4, 1, 0)
	w.load(0, 11)
	w.settle(1)
	w.load(0, 2+2+2+2+2) // (1) came to be one change at each of them
	w.means(grid(2))
}

func TestSpines(t *testing.T) { // P24.5: a trace's one, a join's two, a fold's two, none of others; always the same ones
	nodes := []api.Node{input(num), mapped(0, col(0)), filter(0, col(0)), project(0, 0), concat(0), negate(0), consolidate(0), bucket(0, 0, 1, 1), arrange(0, 1)}
	for kind := api.NodeDistinct; kind <= api.NodeTop; kind++ {
		nodes = append(nodes, folds(kind, 0, 1, max(0, kind-api.NodeTop+1)))
	}
	nodes = append(nodes, joins(0, 0, 1))
	w := watch(t, "spines", planOf(9, nodes...))
	want := []int{0, 0, 0, 0, 0, 0, 0, 0, 1, 2, 2, 2, 2, 2, 2, 2}
	before := make([][]*spine.Spine, len(nodes))
	for at := range nodes {
		if nodes[at].Kind != at {
			t.Fatalf("node %d is of kind %d", at, nodes[at].Kind)
		}
		if before[at] = w.f.Spines(at); len(before[at]) != want[at] {
			t.Fatalf("node %d has %d spines", at, len(before[at]))
		}
	}
	all := slices.Concat(before...)
	for i, s := range all {
		if s == nil || slices.Contains(all[:i], s) {
			t.Fatalf("spine %d is none, or another one's", i)
		}
	}
	for i := range 4 {
		w.puts(0, up(r(i), 0, 0, 1))
	}
	w.moves(0, pair(1, 0))
	w.settle(2)
	for at := range nodes {
		if !slices.Equal(w.f.Spines(at), before[at]) {
			t.Fatalf("node %d has others now", at)
		}
		for side, s := range w.f.Spines(at) {
			if s.Total() == 0 || (side == 0 && s.Total() != 4) {
				t.Fatalf("spine %d of node %d: Total %d", side, at, s.Total())
			}
		}
		clear(w.f.Spines(at)) // the list is the caller's
		if !slices.Equal(w.f.Spines(at), before[at]) {
			t.Fatalf("node %d has others now", at)
		}
	}
	for _, at := range noNumbers(len(nodes)) {
		if l := w.f.Spines(at); len(l) > 0 {
			t.Fatalf("node %d has %d spines", at, len(l))
		}
	}
}

func TestQuiet(t *testing.T) { // P24.5: with no call, with something in a queue, in a hold, in a join, to do in a fold, with a merge that is not done, and behind all
	w := watch(t, "queue", planOf(9, input(num), negate(0)))
	w.isQuiet(true)
	w.puts(0, up(r(1), 0, 0, 1))
	w.isQuiet(false)
	w.steps(1, 1, 0)
	w.isQuiet(true)
	w.moves(0, pair(1, 0))
	w.isQuiet(true)

	w = watch(t, "hold", planOf(9, input(num), consolidate(0)))
	w.isQuiet(true)
	w.puts(0, up(r(1), 0, 3, 1), up(r(1), 3, 0, 1))
	w.steps(1, 2, 0)
	w.isQuiet(true) // nothing is closed
	w.moves(0, pair(0, 3), pair(2, 0))
	w.isQuiet(true)
	w.moves(0, pair(0, 3))
	w.isQuiet(false)
	w.steps(1, 1, 0)
	w.isQuiet(true)
	w.moves(0, pair(1, 3))
	w.isQuiet(false)
	w.steps(1, 1, 0)
	w.isQuiet(true)

	w = watch(t, "join", planOf(9, input(num), joins(0, 0, 1)))
	w.isQuiet(true)
	w.puts(0, up(r(1), 0, 0, 1))
	w.isQuiet(false)
	w.steps(1, 2, 0)
	w.load(1, 2)
	w.isQuiet(false) // it waits
	w.steps(1, 1, 0)
	w.isQuiet(true)
	w.moves(0, pair(1, 0)) // now both sides are advanced
	w.isQuiet(false)
	w.steps(1, 1, 0)
	w.isQuiet(false)
	w.steps(1, 1, 0)
	w.isQuiet(true)

	w = watch(t, "fold", planOf(9, input(num), counts(0, 1)))
	w.puts(0, up(r(1), 0, 0, 1))
	w.isQuiet(false)
	w.steps(1, 1, 0)
	w.isQuiet(true) // it is to do, but not due
	w.moves(0, pair(1, 0))
	w.isQuiet(false)
	w.steps(1, 1, 0)
	w.isQuiet(false) // its spines are advanced
	w.steps(1, 9, 7)
	w.isQuiet(true)
	w.puts(0, up(r(2), 2, 0, 1))
	w.steps(1, 1, 0)
	w.isQuiet(false) // two changes are to be merged
	w.steps(1, 9, 7)
	w.isQuiet(true)

	w = watch(t, "arrangement", planOf(9, input(num), arrange(0, 1)))
	w.puts(0, up(r(1), 0, 0, 1))
	w.steps(1, 1, 0)
	w.isQuiet(true)
	w.puts(0, up(r(2), 0, 0, 1))
	w.steps(1, 1, 0)
	w.isQuiet(false)
	w.steps(1, 1, 0)
	w.isQuiet(false)
	w.steps(1, 2, 1)
	w.isQuiet(true)
	w.forgets(1, times(pair(1, 1)), api.OK)
	w.isQuiet(false)
	w.steps(1, 9, 7)
	w.isQuiet(true)
}

func TestQuietOfANodeWithoutRoom(t *testing.T) { // P24.5: somebody behind it has a turn
	w := watch(t, "no room", planOf(1, input(num), negate(0), negate(1), consolidate(2)))
	w.puts(0, up(r(1), 0, 0, 1), up(r(2), 0, 0, 1), up(r(3), 0, 0, 1))
	w.steps(1, 9, 8)
	w.steps(2, 9, 8)
	w.steps(1, 9, 8)
	w.steps(1, 9, 9)
	w.steps(2, 9, 9)
	w.isQuiet(false)
	w.steps(3, 9, 8)
	w.isQuiet(false)
	w.settle(1)
	w.load(0, 3)
}

func TestWhatQuietAdvances(t *testing.T) { // P24.5: joins and folds, as a turn does, wherever they are, and whatever it answers
	w := watch(t, "advances", planOf(9, input(num), joins(0, 0, 1), counts(0, 1), arrange(0, 1), counts(1, 1)))
	w.puts(0, up(r(1), 0, 4, 1))
	w.moves(0, pair(2, 2))
	stays, waits := times(pair(0, 0)), times(pair(0, 4), pair(2, 2))
	for at, many := range map[int]int{1: 2, 2: 2, 3: 1, 4: 2} {
		w.since(at, slices.Repeat([][]api.Time{stays}, many)...)
	}
	w.isQuiet(false)
	w.since(1, waits, waits)
	w.since(2, waits, waits)
	w.since(3, stays)
	w.since(4, waits, waits)
	w.settle(1)
	closed := times(pair(2, 2))
	for _, at := range []int{1, 2, 4} {
		w.since(at, closed, closed)
	}
	w.moves(0)
	w.isQuiet(false)
	for _, at := range []int{1, 2, 4} {
		w.since(at, nil, nil)
	}
	w.since(3, stays)
}

func TestStepsOfOthersAdvanceNothing(t *testing.T) { // P24.4: a turn advances what the node has, not what others have
	w := watch(t, "others", planOf(9, input(num), counts(0, 1), joins(0, 0, 1), negate(0)))
	w.puts(0, up(r(1), 0, 0, 1))
	w.moves(0, pair(2, 2))
	w.steps(3, 5, 4)
	w.steps(2, 1, 0)
	w.since(1, times(pair(0, 0)), times(pair(0, 0)))
	w.steps(1, 1, 0)
	w.since(1, times(pair(0, 0)), times(pair(0, 0))) // it is to do
	w.steps(1, 1, 0)
	w.since(1, times(pair(2, 2)), times(pair(2, 2)))
	w.since(2, times(pair(0, 0)), times(pair(2, 2)))
}

// noNumbers are numbers that none of so many has.
func noNumbers(many int) []int {
	return []int{low, low + 1, -1 << 32, -2, -1, many, many + 1, 1 << 32, 1<<32 - 1, high - 1, high}
}

func TestFrontierOfAFlowIsNotFewerThanItsTimes(t *testing.T) { // P24.3: times that wait in several queues are told together, each once
	w := watch(t, "queues", planOf(99, input(num), input(num), concat(0, 1, 0)))
	x := chance(5)
	var all []api.Time
	for range 40 {
		u := up(r(1), x.below(12), x.below(12), 1)
		w.puts(x.below(2), u)
		all = append(all, u.Time)
	}
	w.moves(0)
	w.moves(1)
	want := front.New(all)
	w.frontier(2, want...)
	for left := len(w.m.queues[2][0])*2 + len(w.m.queues[2][1]); left > 0; left-- {
		w.steps(2, 1, 0)
	}
	w.frontier(2)
}

func TestNew(t *testing.T) { // P24.1: plan.Check's errors, and no flow
	good := planOf(9, input(num, text), negate(0))
	with := func(change func(p *api.Plan)) api.Plan {
		p := copiedPlan(good)
		change(&p)
		return p
	}
	node := func(n api.Node) api.Plan { return with(func(p *api.Plan) { p.Nodes[1] = n }) }
	for name, k := range map[string]struct {
		p    api.Plan
		want api.Errno
	}{
		"nothing":                {api.Plan{}, api.ErrArg},
		"no node":                {with(func(p *api.Plan) { p.Nodes = nil }), api.ErrArg},
		"no out":                 {with(func(p *api.Plan) { p.Outs = nil }), api.ErrArg},
		"too many nodes":         {with(func(p *api.Plan) { p.Nodes = make([]api.Node, api.MaxNodes+1) }), api.ErrMany},
		"too many outs":          {with(func(p *api.Plan) { p.Outs = make([]int, api.MaxOuts+1) }), api.ErrMany},
		"no room":                {with(func(p *api.Plan) { p.Room = 0 }), api.ErrArg},
		"a room below 0":         {with(func(p *api.Plan) { p.Room = low }), api.ErrArg},
		"too much room":          {with(func(p *api.Plan) { p.Room = api.MaxRoom + 1 }), api.ErrArg},
		"an out that is none":    {with(func(p *api.Plan) { p.Outs = []int{0, 2} }), api.ErrRange},
		"an out below 0":         {with(func(p *api.Plan) { p.Outs = []int{-1} }), api.ErrRange},
		"a kind that is none":    {node(api.Node{Kind: api.Nodes, Ins: []int{0}}), api.ErrKind},
		"a kind below 0":         {node(api.Node{Kind: -1, Ins: []int{0}}), api.ErrKind},
		"an input with an in":    {node(api.Node{Ins: []int{0}}), api.ErrArg},
		"a negate without":       {node(api.Node{Kind: api.NodeNegate}), api.ErrArg},
		"a concat without":       {node(concat()), api.ErrArg},
		"a concat of nine":       {node(concat(make([]int, api.MaxIns+1)...)), api.ErrArg},
		"a join of one":          {node(api.Node{Kind: api.NodeJoin, Ins: []int{0}}), api.ErrArg},
		"an in that is none":     {node(negate(2)), api.ErrRange},
		"its own in":             {node(negate(1)), api.ErrLoop},
		"kinds that are none":    {with(func(p *api.Plan) { p.Nodes[0].Kinds[1] = 2 }), api.ErrKind},
		"too many columns":       {with(func(p *api.Plan) { p.Nodes[0].Kinds = make([]int, api.MaxCols+1) }), api.ErrMany},
		"a map of nothing":       {node(mapped(0)), api.ErrArg},
		"a map of no column":     {node(mapped(0, col(2))), api.ErrRange},
		"a filter of a text":     {node(filter(0, col(1))), api.ErrType},
		"a project of none":      {node(project(0, 2)), api.ErrRange},
		"a bucket of a text":     {node(bucket(0, 1, 4, 2)), api.ErrType},
		"windows that are none":  {node(bucket(0, 0, 0, 2)), api.ErrArg},
		"too many windows":       {node(bucket(0, 0, 65, 1)), api.ErrMany},
		"a key that is none":     {node(arrange(0, 3)), api.ErrRange},
		"a key below 0":          {node(arrange(0, -1)), api.ErrRange},
		"a count of none":        {node(counts(0, 3)), api.ErrRange},
		"a sum of a text":        {node(folds(api.NodeSum, 0, 1, 1)), api.ErrType},
		"a top of nothing":       {node(folds(api.NodeTop, 0, 1, 0)), api.ErrArg},
		"a join of other kinds":  {with(func(p *api.Plan) { p.Nodes = append(p.Nodes, input(text), joins(0, 2, 1)) }), api.ErrType},
		"a join of no such key":  {with(func(p *api.Plan) { p.Nodes = append(p.Nodes, input(num), joins(0, 2, 2)) }), api.ErrRange},
		"a join of too many":     {with(func(p *api.Plan) { p.Nodes = append(p.Nodes, input(make([]int, 15)...), joins(0, 2, 0)) }), api.ErrMany},
		"two faults: the first":  {with(func(p *api.Plan) { p.Room = 0; p.Outs = make([]int, 9) }), api.ErrMany},
		"two faults: no out":     {with(func(p *api.Plan) { p.Outs = nil; p.Nodes[1].Kind = 99 }), api.ErrArg},
		"two faults: the nodes'": {with(func(p *api.Plan) { p.Nodes[0].Kinds[0] = 7; p.Nodes[1].Ins = []int{1} }), api.ErrLoop},
	} {
		if f, e := flow.New(k.p); f != nil || e != k.want {
			t.Errorf("%s: flow %v, error %d, want %d", name, f != nil, int(e), int(k.want))
		}
		if e, _ := plan.Check(k.p); e != k.want {
			t.Errorf("%s: plan.Check: error %d, want %d", name, int(e), int(k.want))
		}
	}
	for _, p := range []api.Plan{good, planOf(1, input()), planOf(api.MaxRoom, slices.Repeat([]api.Node{input(num)}, api.MaxNodes)...)} {
		w := watch(t, "a plan that may be", p)
		for at := range p.Nodes {
			w.frontier(at, pair(0, 0))
		}
		w.isQuiet(true)
		w.load(0, 0)
	}
}

package audit_test

import (
	"fmt"
	"slices"
	"testing"

	"runnel/api"
	"runnel/audit"
)

// counted holds Count of a row at an out against what is told by hand.
func counted(t *testing.T, p api.Plan, inputs [][]api.Count, out int, of api.Row, want int) {
	t.Helper()
	if got := holdCount(t, "by hand", p, inputs, out, of); got != want {
		t.Errorf("out %d has %v %d times, want %d", out, of, got, want)
	}
}

// hangs holds Why of a row at an out against what is told by hand.
func hangs(t *testing.T, p api.Plan, inputs [][]api.Count, out int, of api.Row, want ...[]api.Count) {
	t.Helper()
	if got, e := holdWhy(t, "by hand", p, inputs, out, of); e != api.OK || !sameLists(got, want) {
		t.Errorf("out %d: Why %v = %v, %d, want %v", out, of, got, int(e), want)
	}
}

// brings holds What of a row of a list against what is told by hand.
func brings(t *testing.T, p api.Plan, inputs [][]api.Count, in int, gone api.Row, want ...[]api.Count) {
	t.Helper()
	if got, e := holdWhat(t, "by hand", p, inputs, in, gone); e != api.OK || !sameLists(got, want) {
		t.Errorf("list %d: What of %v = %v, %d, want %v", in, gone, got, int(e), want)
	}
}

// differs holds where two plans differ against what is told by hand.
func differs(t *testing.T, p, q api.Plan, inputs [][]api.Count, want int, first api.Row) {
	t.Helper()
	holdAgree(t, "by hand", p, q, inputs)
	if out, of, e := audit.Agree(p, q, inputs); e != api.OK || out != want || !sameRow(of, first) {
		t.Errorf("Agree = %d, %v, %d, want %d, %v", out, of, int(e), want, first)
	}
}

// agrees holds that two plans do not differ.
func agrees(t *testing.T, p, q api.Plan, inputs [][]api.Count) {
	t.Helper()
	for _, e := range []api.Errno{holdAgree(t, "one way", p, q, inputs), holdAgree(t, "the other way", q, p, inputs)} {
		if e != api.ErrNone {
			t.Errorf("Agree: %d, want %d", int(e), int(api.ErrNone))
		}
	}
}

func TestExamples(t *testing.T) { // P34.2: those of the chapter
	hangs(t, planOf(input(text), distinct(0)), lists(list(c(2, "a"))), 0, r("a"), list(c(1, "a")))
	hangs(t, planOf(input(text), counts(0, 0)), lists(list(c(1, "a"), c(1, "b"))), 0, r(2), list(c(1, "a"), c(1, "b")))
}

func TestByHand(t *testing.T) { // P34.1 to P34.4: a row that hangs on rows of both inputs
	p, l := shop(), orders()
	counted(t, p, l, 0, r(1, 17), 1)
	counted(t, p, l, 0, r(1, 10), 0)
	counted(t, p, l, 1, r(1, 5), 2)
	counted(t, p, l, 1, r(2, 9), 0)
	counted(t, p, l, 2, r(2, 9), 1)
	hangs(t, p, l, 0, r(1, 17), list(c(1, 1, 5), c(1, 1, 7)), list(c(1, 1)))
	hangs(t, p, l, 0, r(1, 10), list(c(-1, 1, 7)), nil)
	hangs(t, p, l, 1, r(1, 5), list(c(2, 1, 5)), list(c(2, 1)))
	hangs(t, p, l, 2, r(1, 5), list(c(1, 1, 5)), nil)
	hangs(t, p, l, 2, r(1, 7), list(c(-1, 1, 5)), nil)
	hangs(t, p, l, 0, r(9, 9), nil, nil)
	brings(t, p, l, 0, r(1, 7), list(c(-1, 1, 10), c(1, 1, 17)), list(c(1, 1, 7)), nil)
	brings(t, p, l, 0, r(1, 5), list(c(-1, 1, 7), c(1, 1, 17)), list(c(2, 1, 5)), list(c(1, 1, 5), c(-1, 1, 7)))
	brings(t, p, l, 0, r(2, 9), nil, nil, list(c(1, 2, 9)))
	brings(t, p, l, 1, r(1), list(c(1, 1, 17)), list(c(2, 1, 5), c(1, 1, 7)), nil)
	brings(t, p, l, 1, r(3), nil, nil, nil)
	each := p
	each.Nodes = slices.Clone(p.Nodes)
	each.Nodes[3] = joins(0, 1, 1) // as often as one may order
	differs(t, p, each, l, 0, r(1, 17))
	differs(t, each, p, l, 0, r(1, 17))
	differs(t, outsAre(p, 5, 3), outsAre(each, 5, 3), l, 1, r(1, 5))
	agrees(t, outsAre(p, 5), outsAre(each, 5), l)
}

func TestNothingThere(t *testing.T) { // P34.1 to P34.4: no inputs' rows at all
	for _, p := range []api.Plan{shop(), linears(), great(), trap(0, 1)} {
		none := many(2, []api.Count(nil))
		if len(p.Nodes[1].Ins) > 0 {
			none = none[:1]
		}
		for out := range p.Outs {
			counted(t, p, none, out, nil, 0)
			counted(t, p, none, out, r(1, 17), 0)
			hangs(t, p, none, out, r(1, 17), none...)
		}
		for in := range none {
			brings(t, p, none, in, r(1), many(len(p.Outs), []api.Count(nil))...)
		}
		agrees(t, p, p, none)
		hold(t, "nothing", p, none)
	}
}

func TestCountOfOuts(t *testing.T) { // P34.1: an out that is an input, the same node twice and more, all outs that may be
	l := lists(list(c(2, 1), c(1, 2), c(3, 1), c(-4, 3), c(5, 4), c(-5, 4), c(0, 5)))
	p := outsAre(planOf(input(num), negate(0), distinct(0)), 0, 1, 0, 2, 2, 1, 0, 1)
	for out, node := range p.Outs {
		for of, want := range map[int][3]int{1: {5, -5, 1}, 2: {1, -1, 1}, 3: {-4, 4, 0}, 4: {0, 0, 0}, 5: {0, 0, 0}, 6: {0, 0, 0}} {
			counted(t, p, l, out, r(of), want[node])
			counted(t, p, l, out, laden(r(of)), want[node])
		}
		for _, of := range []api.Row{nil, r(1, 1), r("1"), r(""), r(api.Val{Kind: 2, Int: 1}), r(api.Val{Kind: -1}), many(17, api.Val{Int: 1})} {
			counted(t, p, l, out, of, 0)
			hangs(t, p, l, out, of, nil)
		}
	}
	hold(t, "all outs", p, l)
	counted(t, planOf(input()), lists(list(c(2), c(5))), 0, nil, 7)
	counted(t, planOf(input()), lists(list(c(2), c(-2))), 0, r(), 0)
	counted(t, planOf(input(num)), lists(list(c(low, 1), c(high, 2))), 0, r(1), low)
	counted(t, planOf(input(num)), lists(list(c(low, 1), c(high, 2))), 0, r(2), high)
}

func TestWithout(t *testing.T) { // P34.1: counts of one list, all that have the row, and of no other list
	l := lists(list(c(2, 1), c(1, 2), c(3, 1), c(0, 1), c(-4, 3)), list(c(7, 1), c(1, "1")), nil, list(c(1, 1, 2), c(1), c(9, 1)))
	for _, k := range []struct {
		in   int
		gone api.Row
		want [][]api.Count
	}{
		{0, r(1), lists(list(c(1, 2), c(-4, 3)), l[1], nil, l[3])},
		{0, laden(r(1)), lists(list(c(1, 2), c(-4, 3)), l[1], nil, l[3])},
		{0, r(2), lists(list(c(2, 1), c(3, 1), c(0, 1), c(-4, 3)), l[1], nil, l[3])},
		{0, r(3), lists(l[0][:4], l[1], nil, l[3])},
		{0, r("1"), l},
		{0, nil, l},
		{1, r("1"), lists(l[0], l[1][:1], nil, l[3])},
		{1, laden(r("1")), lists(l[0], l[1][:1], nil, l[3])},
		{1, r(2), l}, // only another list has it
		{2, r(1), l},
		{3, r(1), lists(l[0], l[1], nil, l[3][:2])},
		{3, nil, lists(l[0], l[1], nil, list(c(1, 1, 2), c(9, 1)))},
		{3, r(1, 2), lists(l[0], l[1], nil, l[3][1:])},
	} {
		holdWithout(t, "by hand", l, k.in, k.gone)
		if got := audit.Without(l, k.in, k.gone); !sameLists(got, k.want) {
			t.Errorf("Without %v of list %d = %v, want %v", k.gone, k.in, got, k.want)
		}
	}
	for _, in := range noNumbers(len(l)) {
		for _, gone := range []api.Row{r(1), nil, r("1"), r(2)} {
			if got := audit.Without(l, in, gone); !sameLists(got, l) {
				t.Errorf("Without %v of list %d = %v, want all", gone, in, got)
			}
			if got := audit.Without(nil, in, gone); len(got) != 0 {
				t.Errorf("of no lists: %v", got)
			}
		}
	}
	if got := audit.Without(nil, 0, nil); len(got) != 0 {
		t.Errorf("of no lists: %v", got)
	}
	wild := lists(list(api.Count{Row: many(40, api.Val{Kind: 9, Int: 3}), Diff: low}, c(1, 5), api.Count{Row: r(api.Val{Kind: -1})}))
	if got := audit.Without(wild, 0, r(api.Val{Kind: -1, Int: 7})); !sameLists(got, lists(wild[0][:2])) { // rows that are none are asked for nothing
		t.Errorf("rows that are none: %v", got)
	}
}

func TestWhyOfSeveral(t *testing.T) { // P34.2: in which lists, in which order, and how many
	both := planOf(input(num), input(num), concat(0, 1))
	both = outsAre(both, 2, 0, 1)
	l := lists(list(c(2, 1), c(1, 2)), list(c(3, 1), c(-1, 2)))
	hangs(t, both, l, 0, r(1), list(c(2, 1)), list(c(3, 1))) // there in several inputs at once
	hangs(t, both, l, 0, r(2), list(c(1, 2)), list(c(-1, 2)))
	hangs(t, both, l, 1, r(1), list(c(2, 1)), nil)
	hangs(t, both, l, 2, r(1), nil, list(c(3, 1)))
	brings(t, both, l, 0, r(2), list(c(1, 2)), list(c(1, 2)), nil)
	brings(t, both, l, 1, r(2), list(c(-1, 2)), nil, list(c(-1, 2)))

	total := planOf(input(num, text), counts(0, 0))
	in := lists(list(c(1, 2, "b"), c(4, 1, "z"), c(2, 1, "a"), c(-1, 2, "b"), c(-3, 1, "b"), c(1, 3, "y"), c(1, 1, "a")))
	counted(t, total, in, 0, r(5), 1)
	hangs(t, total, in, 0, r(5), list(c(1, 1, "a"), c(1, 1, "b"), c(1, 1, "z"), c(1, 3, "y"))) // (2 "b") stands there twice and leaves nothing
	hangs(t, total, in, 0, r(1), list(c(-1, 1, "z")))
	hangs(t, total, in, 0, r(8), list(c(-1, 1, "b")))
	brings(t, total, in, 0, r(2, "b"), nil)
	brings(t, total, in, 0, r(1, "b"), list(c(1, 5), c(-1, 8)))

	alone := outsAre(planOf(input(num), input(num), negate(1), distinct(0)), 3, 2, 1, 3, 3, 2, 0, 1)
	l = lists(list(c(5, 7), c(-1, 8)), list(c(2, 7)))
	for out, want := range map[int][2]int{0: {1, 0}, 1: {0, -2}, 2: {0, 2}, 3: {1, 0}, 4: {1, 0}, 5: {0, -2}, 6: {5, 0}, 7: {0, 2}} {
		told := lists(list(c(want[0], 7)), list(c(want[1], 7)))
		for i := range told {
			told[i] = slices.DeleteFunc(told[i], func(x api.Count) bool { return x.Diff == 0 })
		}
		hangs(t, alone, l, out, r(7), told...)
	}
	hangs(t, alone, l, 0, r(8), nil, nil)
	hangs(t, alone, l, 6, r(8), list(c(-1, 8)), nil)
}

func TestWhatAnotherHolds(t *testing.T) { // P34.2, P34.3: a row that leaves because another one comes, and one that comes because another one leaves
	p := outsAre(planOf(input(num, num), least(0, 1), folds(api.NodeMax, 0, 1, 0), folds(api.NodeTop, 0, 1, 2)), 1, 2, 3)
	l := lists(list(c(1, 1, 5), c(1, 1, 7), c(2, 1, 6), c(-2, 1, 4), c(1, 2, 5)))
	hangs(t, p, l, 0, r(1, 5), list(c(1, 1, 5)))
	hangs(t, p, l, 0, r(1, 6), list(c(-1, 1, 5)))
	hangs(t, p, l, 0, r(1, 7), nil)
	hangs(t, p, l, 1, r(1, 7), list(c(1, 1, 7)))
	hangs(t, p, l, 1, r(1, 6), list(c(-1, 1, 7)))
	hangs(t, p, l, 2, r(1, 6), list(c(-1, 1, 5), c(1, 1, 6)))
	hangs(t, p, l, 2, r(1, 7), list(c(-1, 1, 6)))
	brings(t, p, l, 0, r(1, 5), list(c(1, 1, 5), c(-1, 1, 6)), nil, list(c(1, 1, 5), c(-1, 1, 6)))
	brings(t, p, l, 0, r(1, 4), nil, nil, nil)
	hold(t, "the least and the greatest", p, l)

	less := planOf(input(num), input(num), negate(1), concat(0, 2), distinct(3)) // what the first one has more than the second one
	l = lists(list(c(1, 1), c(3, 2)), list(c(1, 1), c(2, 2)))
	hangs(t, less, l, 0, r(1), nil, list(c(-1, 1)))
	hangs(t, less, l, 0, r(2), list(c(1, 2)), nil)
	brings(t, less, l, 1, r(1), list(c(-1, 1)))
	hold(t, "less", less, l)
}

func TestWhatOfNothing(t *testing.T) { // P34.3: a row that the list has not, or of which it leaves nothing
	p, l := shop(), orders()
	l[0] = append(l[0], c(5, 1, 1), c(-5, 1, 1))
	nothing := many(3, []api.Count(nil))
	for _, gone := range []api.Row{nil, r(1), r(1, 17), r(1, 1), r("1", 7), r(7, 1), r(1, 7, 7), many(40, api.Val{Kind: 5})} {
		brings(t, p, l, 0, gone, nothing...)
	}
	for _, gone := range []api.Row{nil, r(1, 7), r(2), r("1"), r(3, 0)} {
		brings(t, p, l, 1, gone, nothing...)
	}
}

func TestFieldsThatPlayNoPart(t *testing.T) { // the rule of rows: filled in lists, in a row that is asked for, in both
	p := outsAre(planOf(input(num, text), distinct(0), counts(0, 1)), 1, 2, 0)
	plain := lists(list(c(1, 1, "a"), c(1, 1, "a"), c(2, 1, "b")))
	full := lists(list(c(1, 1, "a"), api.Count{Row: laden(r(1, "a")), Diff: 1}, api.Count{Row: laden(r(1, "b")), Diff: 2}))
	for _, l := range [][][]api.Count{plain, full} {
		for _, fill := range []func(api.Row) api.Row{laden, func(l api.Row) api.Row { return l }} {
			counted(t, p, l, 0, fill(r(1, "a")), 1)
			counted(t, p, l, 2, fill(r(1, "a")), 2)
			hangs(t, p, l, 1, fill(r(1, 4)), list(c(1, 1, "a"), c(1, 1, "b")))
			hangs(t, p, l, 0, fill(r(1, "a")), list(c(1, 1, "a")))
			brings(t, p, l, 0, fill(r(1, "a")), list(c(1, 1, "a")), list(c(-1, 1, 2), c(1, 1, 4)), list(c(2, 1, "a")))
			if got := audit.Without(l, 0, fill(r(1, "a"))); !sameLists(got, lists(list(c(2, 1, "b")))) {
				t.Errorf("Without = %v", got)
			}
			agrees(t, p, p, l)
		}
	}
}

func TestAgree(t *testing.T) { // P34.4: plans that mean the same, and the first row of the first out that differs
	in := func(nodes ...api.Node) api.Plan {
		return planOf(slices.Concat([]api.Node{input(num), input(num)}, nodes)...)
	}
	l := lists(list(c(1, 1), c(2, 3)), list(c(1, 1), c(2, 2)))
	first, second, both := in(), outsAre(in(), 0), in(concat(0, 1))
	differs(t, second, first, l, 0, r(2)) // that only q has
	differs(t, first, second, l, 0, r(2)) // that only p has
	differs(t, first, both, l, 0, r(1))   // that both have, another number of times
	differs(t, both, second, l, 0, r(1))
	differs(t, outsAre(both, 0, 1, 2, 0), outsAre(both, 0, 1, 2, 1), l, 3, r(2)) // the last out alone
	differs(t, outsAre(both, 0, 0, 0, 0, 0, 0, 0, 2), outsAre(both, 0, 0, 0, 0, 0, 0, 0, 0), l, 7, r(1))
	differs(t, outsAre(both, 0, 1, 2), outsAre(both, 0, 2, 1), l, 1, r(1))
	differs(t, second, in(distinct(0)), l, 0, r(3)) // behind rows that are alike
	differs(t, in(distinct(0)), in(distinct(1)), l, 0, r(2))

	one := lists(list(c(1, 1)), nil)
	differs(t, second, first, one, 0, r(1)) // one of them has nothing
	differs(t, first, second, one, 0, r(1))
	longer := lists(list(c(1, 1), c(1, 2)), list(c(1, 1)))
	differs(t, second, first, longer, 0, r(2)) // one has but more
	differs(t, first, second, longer, 0, r(2))

	room := second
	room.Room = api.MaxRoom
	agrees(t, second, room, l)
	agrees(t, second, in(negate(0), negate(2)), l)
	agrees(t, both, in(concat(1, 0), consolidate(2), arrange(3, 1)), l)
	agrees(t, in(negate(0), concat(0, 2)), in(project(0, 0), negate(2), concat(1, 2), negate(1), concat(2, 5, 1), concat(0, 3, 4, 6, 1, 5)), lists(nil, nil))
	agrees(t, first, second, lists(l[0], l[0]))
	agrees(t, outsAre(first, 0, 0, 0), outsAre(second, 0, 0, 0), l)

	none := planOf(input(), input())
	differs(t, none, outsAre(none, 0), lists(list(c(1)), list(c(2))), 0, nil) // of empty rows
	differs(t, none, outsAre(none, 0), lists(list(c(1)), nil), 0, nil)
	agrees(t, none, outsAre(none, 0), lists(list(c(1), c(1)), list(c(2))))
	agrees(t, planOf(input()), planOf(input(num)), lists(nil)) // of other rows
	extreme := lists(list(c(low, 1)), list(c(high, 1)))
	differs(t, first, second, extreme, 0, r(1)) // whose difference no number tells
	differs(t, outsAre(first, 0, 0), outsAre(first, 0, 1), extreme, 1, r(1))
}

func TestAgreeOfFewerOuts(t *testing.T) { // P34.4: ErrArg, also where both say the same as far as they go
	p := planOf(input(num), negate(0))
	for many := 1; many <= api.MaxOuts; many++ {
		for other := 1; other <= api.MaxOuts; other++ {
			a, b := outsAre(p, slices.Repeat([]int{0}, many)...), outsAre(p, slices.Repeat([]int{0}, other)...)
			want := api.ErrNone
			if many != other {
				want = api.ErrArg
			}
			for _, l := range [][][]api.Count{lists(nil), lists(list(c(1, 1)))} {
				if e := holdAgree(t, fmt.Sprint(many, " outs and ", other), a, b, l); e != want {
					t.Errorf("%d outs and %d: %d, want %d", many, other, int(e), int(want))
				}
			}
		}
	}
	if e := holdAgree(t, "other ones, and not as many", outsAre(p, 1), outsAre(p, 0, 1), lists(list(c(1, 1)))); e != api.ErrArg {
		t.Errorf("other ones, and not as many: %d", int(e))
	}
}

func TestAllKinds(t *testing.T) { // P34.1 to P34.5: of every kind of node, all that is told
	l := lists(list(c(2, 1, "a"), c(1, 2, "bb"), c(-1, 3, ""), c(1, 0, "a"), c(1, 2, "a")), list(c(1, 1, "a"), c(3, 2, "a"), c(1, 5, "bb")))
	hold(t, "linear ones", linears(), l)
	for kind := api.NodeMap; kind < api.Nodes; kind++ {
		node := folds(kind, 0, 1, 0)
		switch kind {
		case api.NodeMap:
			node = mapped(0, of(api.OpLen, col(1)), col(0))
		case api.NodeFilter:
			node = filter(0, col(0))
		case api.NodeProject:
			node.Cols = []int{1}
		case api.NodeConcat, api.NodeJoin:
			node.Ins = []int{0, 1}
		case api.NodeBucket:
			node = bucket(0, 0, 4, 1)
		case api.NodeTop:
			node.N = 2
		}
		p := planOf(input(num, text), input(num, text), node)
		at := fmt.Sprint("kind ", kind)
		hold(t, at, p, l)
		hold(t, at+", of which two come", outsAre(p, 2, 2, 1), l)
	}
	hold(t, "a shop", shop(), orders())
}

package audit_test

import (
	"fmt"
	"slices"
	"testing"

	"runnel/api"
	"runnel/audit"
	"runnel/deno"
)

// refused holds that a call answers an error and nothing beside it.
func refused(t *testing.T, at string, want api.Errno, e api.Errno, nothing bool) {
	t.Helper()
	if e != want || !nothing {
		t.Errorf("%s: %d, nothing beside it: %v; want %d", at, int(e), nothing, int(want))
	}
}

// allRefuse holds that all calls answer an error of the plan and the lists, also where an out or a list is asked for that there is not.
func allRefuse(t *testing.T, at string, p api.Plan, l [][]api.Count, want api.Errno) {
	t.Helper()
	if _, e := deno.Counts(p, l); e != want {
		t.Fatalf("%s: deno tells %d, want %d", at, int(e), int(want))
	}
	for _, i := range []int{0, 1, -1, 99, low, high} {
		for _, of := range []api.Row{nil, r(1), r(api.Val{Kind: 7}), many(17, api.Val{})} {
			n, e := audit.Count(p, l, i, of)
			refused(t, at+": Count", want, e, n == 0)
			why, e := audit.Why(p, l, i, of)
			refused(t, at+": Why", want, e, len(why) == 0)
			what, e := audit.What(p, l, i, of)
			refused(t, at+": What", want, e, len(what) == 0)
		}
	}
	out, of, e := audit.Agree(p, p, l)
	refused(t, at+": Agree", want, e, out == 0 && of == nil)
}

// wrong is a plan, and lists, that may not be.
type wrong struct {
	name   string
	p      api.Plan
	inputs [][]api.Count
	want   api.Errno
}

// wrongPlans are plans that may not be, with lists that no plan has.
func wrongPlans() []wrong {
	good := planOf(input(num))
	room := good
	room.Room = 0
	bad := lists(list(c(high, "a"), c(high, "a")), nil, nil)
	return []wrong{
		{"no plan", api.Plan{}, nil, api.ErrArg},
		{"no node", api.Plan{Outs: []int{0}, Room: 1}, bad, api.ErrArg},
		{"no out", outsAre(good), bad, api.ErrArg},
		{"no room", room, bad, api.ErrArg},
		{"too many outs", outsAre(good, many(9, 0)...), bad, api.ErrMany},
		{"too many nodes", planOf(many(65, input(num))...), bad, api.ErrMany},
		{"an out that is no node", outsAre(good, 1), bad, api.ErrRange},
		{"a kind that there is not", planOf(api.Node{Kind: api.Nodes}), bad, api.ErrKind},
		{"its own in", planOf(input(num), negate(1)), bad, api.ErrLoop},
		{"other kinds", planOf(input(num), input(text), concat(0, 1)), bad, api.ErrType},
		{"a column that there is not", planOf(input(num), project(0, 1)), bad, api.ErrRange},
		{"a text that is too long", planOf(input(num), mapped(0, word(string(many(4097, byte('x')))))), bad, api.ErrLong},
		{"steps that lay nothing", planOf(input(num), mapped(0, of(api.OpAdd, col(0)))), bad, api.ErrForm},
	}
}

// wrongLists are lists that a plan that may be does not take.
func wrongLists() []wrong {
	p := planOf(input(num, text), input(num), negate(0))
	one, big := c(1, 1, "a"), c(high, 2)
	l := []wrong{
		{"no list", p, nil, api.ErrArg},
		{"too few", p, lists(list(one)), api.ErrArg},
		{"too many", p, lists(list(one), nil, nil), api.ErrArg},
		{"too few, with rows that are none", p, lists(list(c(1))), api.ErrArg},
		{"too many, with sums that are too great", p, lists(nil, list(big, big), nil), api.ErrArg},
		{"sums that are too great", p, lists(nil, list(big, big)), api.ErrOver},
		{"sums that are too great on their way", p, lists(nil, list(big, big, c(low, 2))), api.ErrOver},
		{"a negative that is too great", p, lists(list(c(low, 1, "a")), nil), api.ErrOver},
		{"rows that do not fit, and sums", p, lists(list(c(high, 1, "a"), c(1, 1, "a")), list(c(1, "a"))), api.ErrType},
	}
	for _, bad := range []struct {
		name string
		row  api.Row
	}{
		{"a short row", r(1)}, {"no row", nil}, {"a long row", r(1, "a", 1)}, {"other kinds", r("a", 1)}, {"a kind that is none", r(1, api.Val{Kind: 2})}, {"a kind below 0", r(api.Val{Kind: -1}, "a")},
		{"a text that is too long", r(1, string(many(4097, byte('x'))))}, {"too many values", many(17, api.Val{})},
	} {
		for place := range 3 {
			rows := slices.Insert(list(one, one), place, api.Count{Row: bad.row, Diff: place - 1})
			l = append(l, wrong{fmt.Sprint(bad.name, " at ", place), p, lists(rows, nil), api.ErrType})
		}
	}
	return append(l, wrong{"a row of the other list", p, lists(list(one), list(one)), api.ErrType})
}

func TestWrongPlansAndLists(t *testing.T) { // P34.1 to P34.4: deno.Counts' error, ahead of each other one
	for _, k := range slices.Concat(wrongPlans(), wrongLists()) {
		allRefuse(t, k.name, k.p, k.inputs, k.want)
	}
}

func TestNoSuchOut(t *testing.T) { // P34.1, P34.2: ErrRange, below 0 and beyond
	for outs := 1; outs <= api.MaxOuts; outs++ {
		p := outsAre(shop(), slices.Repeat([]int{4}, outs)...)
		for _, out := range noNumbers(outs) {
			for _, of := range []api.Row{nil, r(1, 17), r(9, 9)} {
				n, e := audit.Count(p, orders(), out, of)
				refused(t, fmt.Sprint("Count at out ", out), api.ErrRange, e, n == 0)
				why, e := audit.Why(p, orders(), out, of)
				refused(t, fmt.Sprint("Why at out ", out), api.ErrRange, e, len(why) == 0)
			}
		}
		for out := range outs {
			counted(t, p, orders(), out, r(1, 17), 1)
		}
	}
	// Ahead of what is told without a row.
	why, e := audit.Why(trap(6, 5), lists(list(c(1, 1), c(1, 2), c(1, 4))), 2, r(7))
	refused(t, "Why ahead of a row", api.ErrRange, e, len(why) == 0)
}

func TestNoSuchList(t *testing.T) { // P34.3: ErrRange, below 0 and beyond
	for _, in := range noNumbers(2) {
		for _, gone := range []api.Row{nil, r(1, 7), r(1), r(9, 9)} {
			what, e := audit.What(shop(), orders(), in, gone)
			refused(t, fmt.Sprint("What of list ", in), api.ErrRange, e, len(what) == 0)
		}
	}
	for _, in := range noNumbers(1) {
		what, e := audit.What(trap(6, 5), lists(list(c(1, 1), c(1, 2), c(1, 4))), in, r(1))
		refused(t, fmt.Sprint("What of list ", in, ", ahead of a row"), api.ErrRange, e, len(what) == 0)
	}
}

func TestAgreeOfWrongPlans(t *testing.T) { // P34.4: p's error, then q's, then that of the numbers of outs
	good := planOf(input(num), input(num, text))
	l := lists(list(c(1, 1)), list(c(1, 1, "a")))
	ask := func(at string, p, q api.Plan, l [][]api.Count, want api.Errno) {
		t.Helper()
		out, of, e := audit.Agree(p, q, l)
		refused(t, at, want, e, out == 0 && of == nil)
	}
	for _, k := range wrongPlans() {
		ask(k.name+" is p", k.p, good, l, k.want)
		ask(k.name+" is q", good, k.p, l, k.want)
		ask(k.name+" is q, with more outs", outsAre(good, 0, 1), k.p, l, k.want)
		for _, other := range wrongPlans() {
			ask(k.name+" is p, "+other.name+" is q", k.p, other.p, l, k.want)
			ask(k.name+" is p, "+other.name+" is q, and the lists are wrong", k.p, other.p, other.inputs, k.want)
		}
		ask(k.name+" is q, and the lists are wrong", good, k.p, nil, api.ErrArg)
		ask(k.name+" is q, and the rows are wrong", good, k.p, lists(nil, list(c(1))), api.ErrType)
	}
	ask("q has fewer inputs", good, planOf(input(num)), l, api.ErrArg)
	ask("p has fewer inputs", planOf(input(num)), good, l, api.ErrArg)
	ask("q has other inputs", good, planOf(input(num), input(text, num)), l, api.ErrType)
	ask("q has other inputs, and more outs", good, outsAre(planOf(input(num), input(text, num)), 0, 1), l, api.ErrType)
	ask("sums of q", planOf(input(num)), outsAre(planOf(input(num), concat(0, 0)), 0), lists(list(c(high, 1))), api.ErrOver)
	ask("sums of q, with more outs", planOf(input(num)), outsAre(planOf(input(num), concat(0, 0)), 0, 0), lists(list(c(high, 1))), api.ErrOver)
	ask("sums of p, ahead of q", planOf(input(num), concat(0, 0)), planOf(input(text)), lists(list(c(high, 1))), api.ErrOver)
	ask("rows of q, behind sums of p that are not too great", planOf(input(num), concat(0, 0)), planOf(input(text)), lists(list(c(high/2, 1))), api.ErrType)
	ask("more outs, that differ", good, outsAre(good, 0, 0), l, api.ErrArg)
	ask("more outs", good, outsAre(good, 1, 1), l, api.ErrArg)
}

func TestTooGreatWithAll(t *testing.T) { // P34.1 to P34.4: also at an out, and of a list, of which it is not
	p := outsAre(planOf(input(num), input(num), counts(0, 0)), 1)
	l := lists(list(c(high, 1), c(1, 2)), list(c(1, 1)))
	allRefuse(t, "a count that no out has", p, l, api.ErrOver)
	allRefuse(t, "too long", trap(7, 6), lists(list(c(1, 1), c(1, 2), c(1, 4))), api.ErrLong)
	what, e := audit.What(p, l, 0, r(2)) // without which nothing is too great
	refused(t, "What", api.ErrOver, e, len(what) == 0)
	if e := holdAgree(t, "without", p, p, audit.Without(l, 0, r(2))); e != api.ErrNone {
		t.Errorf("without it: %d", int(e))
	}
}

func TestTooGreatWithout(t *testing.T) { // P34.2, P34.3: sums that are too great without one row alone, at all outs
	p := outsAre(planOf(input(num), counts(0, 0)), 1, 0)
	l := lists(list(c(high, 1), c(-1, 2), c(1, 3)))
	counted(t, p, l, 0, r(high), 1)
	for out := range p.Outs {
		for _, of := range []api.Row{r(high), r(1), r(9), nil} {
			why, e := holdWhy(t, "without", p, l, out, of)
			refused(t, "Why", api.ErrOver, e, len(why) == 0)
		}
	}
	what, e := holdWhat(t, "without", p, l, 0, r(2))
	refused(t, "What", api.ErrOver, e, len(what) == 0)
	brings(t, p, l, 0, r(1), list(c(1, high)), list(c(high, 1)))
	brings(t, p, l, 0, r(3), list(c(-1, high-1), c(1, high)), list(c(1, 3)))
	brings(t, p, l, 0, r(4), nil, nil)
}

func TestTooGreatDifference(t *testing.T) { // P34.2, P34.3: only what is told is too great, by weigh.Sub and by zset.Less
	p := great()
	p.Outs = []int{0, 3, 1}
	l := greatLists()
	counted(t, p, l, 1, nil, 1<<62)
	counted(t, p, audit.Without(l, 0, r(5)), 1, nil, -1<<62)
	why, e := holdWhy(t, "great", p, l, 1, nil)
	refused(t, "Why", api.ErrOver, e, len(why) == 0)
	what, e := holdWhat(t, "great", p, l, 0, r(5))
	refused(t, "What", api.ErrOver, e, len(what) == 0)
	hangs(t, p, l, 0, r(5), list(c(1, 5)), nil) // of another out the difference is told
	hangs(t, p, l, 1, r(1), nil, nil)
	brings(t, p, l, 0, r(4), list(c(-1, 4)), list(c(-1<<60)), nil)
	brings(t, p, l, 1, r(5, 3), nil, list(c(1<<61)), list(c(1<<61, 5, 3)))
	brings(t, outsAre(p, 0, 1), l, 0, r(5), list(c(1, 5)), nil) // where that out is none
	agrees(t, p, p, l)

	just := greatLists() // one less of it: the difference is the greatest number there is
	just[1][7].Diff--
	hangs(t, p, just, 1, nil, list(c(-1<<60, 1), c(-1<<60, 2), c(-1<<60, 3), c(-1<<60, 4), c(high, 5)),
		list(c(-1<<60, 1, 0), c(-1<<60, 2, 0), c(-1<<60, 3, 0), c(-1<<60, 4, 0), c(1<<61, 5, 0), c(1<<61, 5, 1), c(1<<61, 5, 2), c(1<<61-1, 5, 3)))
	brings(t, p, just, 0, r(5), list(c(1, 5)), list(c(high)), nil)
}

func TestFirstErrorOfWhy(t *testing.T) { // P34.2: the rows in their order, list by list; of each what Count has, then the difference
	seven := lists(list(c(1, 4), c(1, 2), c(1, 1))) // which come together to 7; without 1, 2, 4 to 6, 5, 3
	for _, k := range []struct {
		long, over int
		want       api.Errno
	}{
		{6, 5, api.ErrLong}, {5, 6, api.ErrOver}, {6, 3, api.ErrLong}, {3, 6, api.ErrOver}, {5, 3, api.ErrLong}, {3, 5, api.ErrOver}, {6, 9, api.ErrLong}, {9, 3, api.ErrOver}, {9, 8, api.OK}, {7, 6, api.ErrLong}, {6, 7, api.ErrOver},
	} {
		for out := range 2 {
			why, e := holdWhy(t, fmt.Sprint(k), trap(k.long, k.over), seven, out, r(7))
			refused(t, fmt.Sprint(k), k.want, e, k.want == api.OK || len(why) == 0)
		}
		for _, gone := range []int{1, 2, 4} {
			want := map[int]api.Errno{k.long: api.ErrLong, k.over: api.ErrOver}
			what, e := holdWhat(t, fmt.Sprint(k), trap(k.long, k.over), seven, 0, r(gone))
			if with := want[7]; with != api.OK {
				refused(t, fmt.Sprint(k, " with ", gone), with, e, len(what) == 0)
			} else if want[7-gone] != api.OK {
				refused(t, fmt.Sprint(k, " without ", gone), want[7-gone], e, len(what) == 0)
			}
		}
	}
	behind := outsAre(planOf(slices.Concat(greatNodes(0), trapNodes(4, 6, 9))...), 3)
	why, e := holdWhy(t, "a difference ahead of a row", behind, append(greatLists(), seven[0]), 0, nil)
	refused(t, "a difference ahead of a row", api.ErrOver, e, len(why) == 0)
	ahead := outsAre(planOf(slices.Concat(trapNodes(0, 6, 9), greatNodes(4))...), 7)
	why, e = holdWhy(t, "a row ahead of a difference", ahead, append(seven, greatLists()...), 0, nil)
	refused(t, "a row ahead of a difference", api.ErrLong, e, len(why) == 0)
}

func TestFirstErrorOfWhat(t *testing.T) { // P34.3: what the plan makes without it, ahead of the differences
	p := planOf(slices.Concat(greatNodes(0), []api.Node{sums(0, 0, 0), mapped(4, trap(10, 9).Nodes[2].Exprs...)})...)
	p.Outs = []int{3} // of greatLists (1) to (5) come together to -5; without (5) to -10
	brings(t, p, greatLists(), 0, r(4), list(c(-1<<60)))
	what, e := holdWhat(t, "the difference alone", p, greatLists(), 0, r(5))
	refused(t, "the difference alone", api.ErrOver, e, len(what) == 0)
	p.Nodes[5] = mapped(4, trap(-10, 9).Nodes[2].Exprs...)
	what, e = holdWhat(t, "too long without it", p, greatLists(), 0, r(5))
	refused(t, "too long without it", api.ErrLong, e, len(what) == 0)
	why, e := holdWhy(t, "too long without it", p, greatLists(), 0, nil)
	refused(t, "too long without it", api.ErrLong, e, len(why) == 0)
}

func TestEveryArgument(t *testing.T) { // the rule of ends: every call ends, and none panics, at all arguments
	var plans []api.Plan
	for _, k := range slices.Concat(wrongPlans(), wrongLists()) {
		plans = append(plans, k.p)
	}
	plans = append(plans, shop(), linears(), great(), trap(1, 2), outsAre(shop(), -1), outsAre(shop(), high), planOf(negate(low)), planOf(folds(api.NodeTop, high, low, low)), planOf(bucket(0, low, high, low)))
	inputs := [][][]api.Count{nil, lists(nil), lists(nil, nil), orders(), greatLists(), lists(list(c(low, 1), c(low, 2))), lists(list(c(1)), list(api.Count{Row: many(99, api.Val{Kind: low}), Diff: low})), many(9, list(c(1, 1)))}
	rows := []api.Row{nil, r(1), r("a"), r(1, 7), many(17, api.Val{}), many(999, api.Val{Kind: high}), r(api.Val{Kind: low, Int: low})}
	told := 0
	for _, p := range plans {
		for _, l := range inputs {
			for _, i := range []int{low, -1, 0, 1, 2, high} {
				for _, of := range rows {
					audit.Count(p, l, i, of)
					audit.Without(l, i, of)
					audit.Why(p, l, i, of)
					audit.What(p, l, i, of)
					told++
				}
			}
			for _, q := range plans {
				audit.Agree(p, q, l)
			}
		}
	}
	if told < 5000 {
		t.Errorf("only %d", told)
	}
}

package deno_test

import (
	"fmt"
	"slices"
	"testing"

	"runnel/api"
	"runnel/deno"
	"runnel/plan"
)

// everyKind is a plan with a node of every kind, in no order, with two inputs.
func everyKind(outs ...int) api.Plan {
	return api.Plan{Nodes: []api.Node{
		fed(join(1), 3, 9),                                // 0
		input(num, text),                                  // 1
		fed(plain(api.NodeNegate), 10),                    // 2
		fed(filter(of(api.OpLess, col(0), number(2))), 1), // 3
		input(num), // 4
		fed(mapped(of(api.OpAdd, col(0), number(1)), of(api.OpLen, col(1))), 1), // 5
		fed(project(1, 0, 1), 1),             // 6
		fed(plain(api.NodeConcat), 4, 4, 2),  // 7
		fed(plain(api.NodeConsolidate), 7),   // 8
		fed(bucket(0, 2, 1), 4),              // 9
		fed(keyed(api.NodeArrange, 1, 0), 4), // 10
		fed(plain(api.NodeDistinct), 4),      // 11
		fed(keyed(api.NodeCount, 1, 0), 1),   // 12
		fed(keyed(api.NodeSum, 1, 1), 5),     // 13
		fed(keyed(api.NodeMin, 0, 0), 1),     // 14
		fed(keyed(api.NodeMax, 0, 0), 1),     // 15
		fed(keyed(api.NodeTop, 0, 2), 4),     // 16
	}, Outs: outs, Room: 10}
}

// everyInput is what the inputs of everyKind have.
func everyInput() [][]api.Count {
	return lists(list(c(1, n(3), s("a")), c(2, n(1), s("a")), c(-1, n(1), s("b"))), list(o(1, 1), o(3, 2), o(1, 1), o(1, 5), o(-1, 5)))
}

// everyMade is what its nodes have.
func everyMade() [][]api.Count {
	two := list(o(2, 1), o(3, 2))
	return lists(
		list(c(4, n(1), s("a"), n(0)), c(4, n(1), s("a"), n(1)), c(-2, n(1), s("b"), n(0)), c(-2, n(1), s("b"), n(1))),
		list(c(2, n(1), s("a")), c(-1, n(1), s("b")), c(1, n(3), s("a"))),
		list(o(-2, 1), o(-3, 2)),
		list(c(2, n(1), s("a")), c(-1, n(1), s("b"))),
		two,
		list(o(1, 2, 1), o(1, 4, 1)),
		list(c(2, s("a"), n(1), s("a")), c(1, s("a"), n(3), s("a")), c(-1, s("b"), n(1), s("b"))),
		two, two,
		list(o(2, 1, 0), o(2, 1, 1), o(3, 2, 1), o(3, 2, 2)),
		two,
		list(o(1, 1), o(1, 2)),
		list(o(1, 1, 1), o(1, 3, 1)),
		list(o(1, 2, 1), o(1, 4, 1)),
		list(c(1, n(1), s("a"))),
		list(c(1, n(3), s("a"))),
		list(o(2, 1)),
	)
}

func holdCounts(t *testing.T, name string, p api.Plan, inputs, want [][]api.Count) {
	t.Helper()
	if got, e := deno.Counts(p, inputs); !sameLists(got, want) || e != api.OK {
		t.Errorf("%s: Counts(%+v, %v) = %v, %d, want %v", name, p, inputs, got, e, want)
	}
}

func holdAt(t *testing.T, name string, p api.Plan, inputs [][]api.Up, when api.Time, want [][]api.Count) {
	t.Helper()
	if got, e := deno.At(p, inputs, when); !sameLists(got, want) || e != api.OK {
		t.Errorf("%s: At(%+v, %v, %v) = %v, %d, want %v", name, p, inputs, when, got, e, want)
	}
}

// atOnce are changes that come to these counts at (0, 0).
func atOnce(inputs [][]api.Count) [][]api.Up {
	var l [][]api.Up
	for _, in := range inputs {
		var ups []api.Up
		for _, x := range in {
			ups = append(ups, api.Up{Row: x.Row, Diff: x.Diff})
		}
		l = append(l, ups)
	}
	return l
}

func TestEveryKind(t *testing.T) { // P18.2, P18.3: told by hand, each node as an out, once and several times
	seen := map[int]int{}
	for node, k := range everyKind().Nodes {
		seen[k.Kind]++
		for _, outs := range [][]int{{node}, {node, node}, {4, node, 0, node, 1}, {16, node, 2, 2, 12, 13, node, node}} {
			var want [][]api.Count
			for _, out := range outs {
				want = append(want, everyMade()[out])
			}
			name := fmt.Sprint("outs ", outs)
			holdCounts(t, name, everyKind(outs...), everyInput(), want)
			holdAt(t, name, everyKind(outs...), atOnce(everyInput()), at(3, 3), want)
		}
	}
	if len(seen) != api.Nodes {
		t.Errorf("%d kinds of %d", len(seen), api.Nodes)
	}
}

func TestInputsInTheirOrder(t *testing.T) { // P18.2: a list for each input, as plan.Inputs tells them
	p := api.Plan{Nodes: []api.Node{fed(plain(api.NodeNegate), 4), input(num), fed(plain(api.NodeNegate), 1), input(num), input(num)}, Outs: []int{4, 3, 1, 0, 2}, Room: 1}
	holdCounts(t, "three inputs", p, lists(list(o(1, 10)), list(o(2, 20)), list(o(3, 30))), lists(list(o(3, 30)), list(o(2, 20)), list(o(1, 10)), list(o(-3, 30)), list(o(-1, 10))))
	holdAt(t, "three inputs", p, [][]api.Up{{u(0, 0, 1, 10)}, {u(0, 0, 2, 20)}, {u(0, 0, 3, 30)}}, at(0, 0), lists(list(o(3, 30)), list(o(2, 20)), list(o(1, 10)), list(o(-3, 30)), list(o(-1, 10))))
	holdCounts(t, "nothing", p, many(3, []api.Count(nil)), many(5, []api.Count(nil)))
	holdCounts(t, "an input that is an out", planOf(input(num)), lists(list(o(1, 7), o(2, 3), o(1, 7), o(4, 5), o(-4, 5), o(0, 1))), lists(list(o(2, 3), o(2, 7))))
	holdCounts(t, "an input of no column", planOf(input()), lists(list(c(3), c(-1))), lists(list(c(2))))
	holdCounts(t, "an input of all columns", planOf(input(many(16, text)...)), lists(list(c(3, many(16, s(long()))...))), lists(list(c(3, many(16, s(long()))...))))
}

func TestOneNodeForSeveral(t *testing.T) { // P18.2: the same node as the in of several, and of one several times
	p := planOf(input(num), fed(join(1), 0, 0), fed(plain(api.NodeConcat), 0, 0, 1), fed(join(0), 2, 1))
	p.Outs = []int{1, 2, 3}
	holdCounts(t, "squares", p, lists(list(o(2, 1), o(-3, 2))), lists(
		list(o(4, 1), o(9, 2)), list(o(8, 1), o(3, 2)), list(o(32, 1, 1), o(72, 1, 2), o(12, 2, 1), o(27, 2, 2))))
}

func TestLongChain(t *testing.T) { // P18.2: as many nodes as may be, each behind the next
	nodes := many(63, api.Node{})
	for i := range nodes {
		nodes[i] = fed(mapped(of(api.OpAdd, col(0), number(1))), i+1)
	}
	p := api.Plan{Nodes: append(nodes, input(num)), Outs: []int{0, 62, 63}, Room: 1}
	holdCounts(t, "a chain", p, lists(list(o(5, 100))), lists(list(o(5, 163)), list(o(5, 101)), list(o(5, 100))))
}

func TestTimes(t *testing.T) { // P18.3: times ahead of, at, beside and behind those of changes
	p := planOf(input(num, num), fed(keyed(api.NodeCount, 1, 0), 0))
	p.Outs = []int{0, 1}
	changes := [][]api.Up{{u(1, 2, 1, 7, 1), u(3, 0, 2, 7, 2), u(1, 2, 1, 8, 1), u(3, 3, -1, 8, 1), u(0, 9, 1, 9, 9)}}
	first, second, third, last := o(1, 7, 1), o(2, 7, 2), o(1, 8, 1), o(1, 9, 9)
	for _, k := range []struct {
		when api.Time
		want [][]api.Count
	}{
		{at(0, 0), lists(nil, nil)},
		{at(1, 1), lists(nil, nil)},
		{at(0, 2), lists(nil, nil)},
		{at(0, 8), lists(nil, nil)},
		{at(0, 9), lists(list(last), list(o(1, 9, 1)))},
		{at(1, 2), lists(list(first, third), list(o(1, 7, 1), o(1, 8, 1)))},
		{at(2, 2), lists(list(first, third), list(o(1, 7, 1), o(1, 8, 1)))},
		{at(1, 8), lists(list(first, third), list(o(1, 7, 1), o(1, 8, 1)))},
		{at(1, 9), lists(list(first, third, last), list(o(1, 7, 1), o(1, 8, 1), o(1, 9, 1)))},
		{at(3, 0), lists(list(second), list(o(1, 7, 2)))},
		{at(3, 1), lists(list(second), list(o(1, 7, 2)))},
		{at(3, 2), lists(list(first, second, third), list(o(1, 7, 3), o(1, 8, 1)))},
		{at(3, 3), lists(list(first, second), list(o(1, 7, 3)))},
		{at(2, 3), lists(list(first, third), list(o(1, 7, 1), o(1, 8, 1)))},
		{at(api.MaxTime, api.MaxTime), lists(list(first, second, last), list(o(1, 7, 3), o(1, 9, 1)))},
		{at(high, high), lists(list(first, second, last), list(o(1, 7, 3), o(1, 9, 1)))}, // what is asked for need be no time
		{at(-1, high), lists(nil, nil)},
		{at(high, -1), lists(nil, nil)},
		{at(low, low), lists(nil, nil)},
	} {
		holdAt(t, "changes", p, changes, k.when, k.want)
	}
	edge := [][]api.Up{{u(api.MaxTime, 0, 1, 1, 1), u(0, api.MaxTime, 1, 2, 2)}}
	holdAt(t, "the last times", p, edge, at(api.MaxTime, api.MaxTime), lists(list(o(1, 1, 1), o(1, 2, 2)), list(o(1, 1, 1), o(1, 2, 1))))
	holdAt(t, "one of the last times", p, edge, at(api.MaxTime, api.MaxTime-1), lists(list(o(1, 1, 1)), list(o(1, 1, 1))))
	holdAt(t, "no change", p, [][]api.Up{nil}, at(5, 5), lists(nil, nil))
	great := [][]api.Up{{u(0, 0, high, 1, 1), u(1, 0, 1, 1, 1)}}
	holdAt(t, "ahead of what is too great", p, great, at(0, 5), lists(list(o(high, 1, 1)), list(o(1, 1, high))))
}

// spoilt are changes that may not be, and how.
type spoilt struct {
	name   string
	change api.Up
	want   api.Errno
}

// spoiltChanges are those of an input with a number and a text.
func spoiltChanges() []spoilt {
	good := api.Row{n(1), s("a")}
	l := []spoilt{
		{"a short row", api.Up{Row: good[:1], Diff: 1}, api.ErrType},
		{"no row", api.Up{Diff: 1}, api.ErrType},
		{"a long row", api.Up{Row: api.Row{n(1), s("a"), n(1)}, Diff: 1}, api.ErrType},
		{"a row with more values than may be", api.Up{Row: r(many(17, 1)...), Diff: 1}, api.ErrType},
		{"a row the other way round", api.Up{Row: api.Row{s("a"), n(1)}, Diff: 1}, api.ErrType},
		{"a row of numbers", api.Up{Row: r(1, 2), Diff: 1}, api.ErrType},
		{"a row of texts", api.Up{Row: api.Row{s("1"), s("a")}, Diff: 1}, api.ErrType},
		{"a value of no kind", api.Up{Row: api.Row{n(1), {Kind: 2}}, Diff: 1}, api.ErrType},
		{"a value of a kind below 0", api.Up{Row: api.Row{{Kind: -1}, s("a")}, Diff: 1}, api.ErrType},
		{"a text that is too long", api.Up{Row: api.Row{n(1), s(long() + "x")}, Diff: 1}, api.ErrType},
		{"a Diff of 0", api.Up{Row: good}, api.ErrArg},
		{"a row ahead of a time", api.Up{Row: good[:1], Time: at(-1, 0), Diff: 1}, api.ErrType},
		{"a row ahead of a Diff", api.Up{Row: good[:1]}, api.ErrType},
		{"a time ahead of a Diff", api.Up{Row: good, Time: at(0, -1)}, api.ErrTime},
		{"all of them", api.Up{Row: api.Row{n(1), {Kind: 2}}, Time: at(0, -1)}, api.ErrType},
	}
	for _, when := range []api.Time{at(-1, 0), at(0, -1), at(api.MaxTime+1, 0), at(0, api.MaxTime+1), at(low, 0), at(0, low), at(high, 0), at(0, high), at(-1, high)} {
		l = append(l, spoilt{fmt.Sprint("a time ", when), api.Up{Row: good, Time: when, Diff: 1}, api.ErrTime})
	}
	return l
}

// goodChanges are changes of that input that may be.
func goodChanges() []api.Up {
	return []api.Up{{Row: api.Row{n(1), s("a")}, Diff: 1}, {Row: api.Row{n(low), s("")}, Time: at(api.MaxTime, 0), Diff: low}, {Row: api.Row{n(high), s(long())}, Time: at(0, api.MaxTime), Diff: high},
		{Row: api.Row{n(1), s("a")}, Diff: -1}, {Row: api.Row{{Kind: num, Int: 1, Str: "x"}, {Kind: text, Int: 7, Str: "a"}}, Time: at(3, 4), Diff: 5}}
}

func TestFits(t *testing.T) { // P18.3: good and bad changes
	kinds := []int{num, text}
	for count := range goodChanges() {
		if e := deno.Fits(kinds, goodChanges()[:count+1]); e != api.OK {
			t.Errorf("good changes: %d", e)
		}
	}
	for _, l := range [][]api.Up{nil, {}} {
		if e := deno.Fits(kinds, l); e != api.OK {
			t.Errorf("no changes: %d", e)
		}
	}
	for _, k := range spoiltChanges() {
		for place := range len(goodChanges()) + 1 {
			l := slices.Insert(goodChanges(), place, k.change)
			if e := deno.Fits(kinds, l); e != k.want {
				t.Errorf("%s at %d: %d, want %d", k.name, place, e, k.want)
			}
			for _, later := range spoiltChanges() {
				if e := deno.Fits(kinds, append(l, later.change)); e != k.want {
					t.Errorf("%s at %d, ahead of %s: %d, want %d", k.name, place, later.name, e, k.want)
				}
			}
		}
	}
}

func TestFitsKinds(t *testing.T) { // P18.3: of each number of columns, and of kinds that are none
	for size := range 19 {
		kinds := many(size, num)
		for length := range 19 {
			want := api.OK
			if length != size || length > 16 {
				want = api.ErrType
			}
			if e := deno.Fits(kinds, []api.Up{{Row: r(many(length, 1)...), Diff: 1}}); e != want {
				t.Errorf("%d columns, %d values: %d, want %d", size, length, e, want)
			}
		}
	}
	for _, kind := range []int{2, -1, low, high} {
		if e := deno.Fits([]int{kind}, []api.Up{{Row: api.Row{{Kind: kind}}, Diff: 1}}); e != api.ErrType {
			t.Errorf("kind %d: %d", kind, e)
		}
		if e := deno.Fits([]int{kind}, nil); e != api.OK {
			t.Errorf("kind %d, no changes: %d", kind, e)
		}
	}
}

// loose are a plan's faults, with the error of each: the plan is everyKind, whose inputs have 2 and 1 columns.
func loose() map[api.Errno]func(p *api.Plan) {
	return map[api.Errno]func(p *api.Plan){
		api.ErrMany:  func(p *api.Plan) { p.Outs = make([]int, 9) },
		api.ErrArg:   func(p *api.Plan) { p.Room = 0 },
		api.ErrRange: func(p *api.Plan) { p.Outs = []int{17} },
		api.ErrKind:  func(p *api.Plan) { p.Nodes[3].Kind = 16 },
		api.ErrLoop:  func(p *api.Plan) { p.Nodes[8].Ins[0] = 8 },
		api.ErrType:  func(p *api.Plan) { p.Nodes[9].Ins[0], p.Nodes[9].N = 1, 1 },
		api.ErrForm:  func(p *api.Plan) { p.Nodes[3].Exprs[0] = slices.Concat(col(0), col(0)) },
	}
}

// holdWholeRefused holds Counts and At of one list of rows against one error.
func holdWholeRefused(t *testing.T, name string, p api.Plan, inputs [][]api.Count, want api.Errno) {
	t.Helper()
	if got, e := deno.Counts(p, inputs); len(got) != 0 || e != want {
		t.Errorf("%s: Counts = %v, %d, want error %d", name, got, e, want)
	}
	if got, e := deno.At(p, atOnce(inputs), at(1, 1)); len(got) != 0 || e != want {
		t.Errorf("%s: At = %v, %d, want error %d", name, got, e, want)
	}
}

func TestPlansAreAskedFirst(t *testing.T) { // P18.2, P18.3: plan.Check's error, ahead of the number of lists, ahead of rows
	bad := lists(list(o(1, 1)), list(o(1, 1, 1)))
	for want, turn := range loose() {
		p := everyKind(0)
		turn(&p)
		if e, _ := plan.Check(p); e != want {
			t.Fatalf("the plan's error is %d, not %d", e, want)
		}
		for _, inputs := range [][][]api.Count{everyInput(), nil, everyInput()[:1], append(everyInput(), nil), bad} {
			holdWholeRefused(t, "a plan that may not be", p, inputs, want)
		}
	}
	holdWholeRefused(t, "no plan", api.Plan{}, nil, api.ErrArg)
	p := everyKind(0)
	for _, inputs := range [][][]api.Count{nil, {}, everyInput()[:1], append(everyInput(), nil), lists(nil), lists(nil, nil, nil), bad[:1], append(bad, nil)} {
		holdWholeRefused(t, "another number of lists", p, inputs, api.ErrArg)
	}
	holdCounts(t, "two lists of nothing", p, lists(nil, nil), lists(nil))
}

func TestCountsAsksRows(t *testing.T) { // P18.2: each row of each list, also one that is not there in the end
	p := planOf(input(num, text), input(num), fed(project(0), 0), fed(plain(api.NodeConcat), 1, 2))
	for _, k := range spoiltChanges() {
		if k.want != api.ErrType {
			continue
		}
		for _, diff := range []int{1, -1, 0, low, high} {
			for place := range 3 {
				l := slices.Insert(list(c(1, n(1), s("a")), c(-1, n(2), s("b"))), place, api.Count{Row: k.change.Row, Diff: diff})
				if got, e := deno.Counts(p, lists(l, list(o(1, 1)))); len(got) != 0 || e != api.ErrType {
					t.Errorf("%s: %v, %d", k.name, got, e)
				}
			}
		}
	}
	second := lists(nil, list(o(1, 1), o(1, 2), c(1, s("a")), o(1, 3)))
	gone := lists(nil, list(o(1, 1, 1), o(-1, 1, 1)))
	over := lists(list(c(high, n(1), s("a")), c(1, n(1), s("a"))), list(o(1, 1, 1)))
	for name, inputs := range map[string][][]api.Count{"the second list": second, "a row that is gone": gone, "a row ahead of a sum": over} {
		if got, e := deno.Counts(p, inputs); len(got) != 0 || e != api.ErrType {
			t.Errorf("%s: %v, %d", name, got, e)
		}
	}
	holdCounts(t, "a Diff of 0 is a count like others", p, lists(list(c(0, n(1), s("a"))), list(o(0, 1), o(2, 2))), lists(list(o(2, 2))))
}

func TestAtAsksChanges(t *testing.T) { // P18.3: of the first list that has it Fits' error, whenever the change is
	p := planOf(input(num, text), input(num, text), fed(plain(api.NodeConcat), 1, 0))
	over := []api.Up{{Row: api.Row{n(1), s("a")}, Diff: high}, {Row: api.Row{n(1), s("a")}, Diff: 1}}
	for _, k := range spoiltChanges() {
		bad := append(goodChanges()[:1], k.change)
		for _, inputs := range [][][]api.Up{{bad, nil}, {nil, bad}, {goodChanges(), bad}, {bad, bad}, {over, bad}, {bad, over}} {
			for _, when := range []api.Time{{}, at(5, 5), at(-1, -1)} {
				if got, e := deno.At(p, inputs, when); len(got) != 0 || e != k.want {
					t.Errorf("%s: At = %v, %d, want error %d", k.name, got, e, k.want)
				}
			}
		}
		for _, other := range spoiltChanges() {
			if got, e := deno.At(p, [][]api.Up{bad, {other.change}}, at(1, 1)); len(got) != 0 || e != k.want {
				t.Errorf("%s, then %s: At = %v, %d, want error %d", k.name, other.name, got, e, k.want)
			}
		}
	}
}

func TestSumsOfChanges(t *testing.T) { // P18.3: zset.At of each list, ahead of what Counts tells
	// Its first node is one that has an error for every row.
	p := planOf(input(num), input(num), fed(mapped(of(api.OpAdd, col(0), number(high))), 0))
	for _, k := range []struct {
		name   string
		inputs [][]api.Up
		when   api.Time
		want   api.Errno
	}{
		{"a sum of the first list", [][]api.Up{{u(0, 0, high, 0), u(0, 0, 1, 0)}, nil}, at(0, 0), api.ErrOver},
		{"a sum of the second list", [][]api.Up{nil, {u(0, 0, high, 0), u(0, 0, 1, 0)}}, at(0, 0), api.ErrOver},
		{"a sum in an order that does not go", [][]api.Up{nil, {u(0, 1, high, 0), u(0, 0, 1, 0), u(0, 0, -1, 0)}}, at(0, 1), api.ErrOver},
		{"a sum in an order that goes", [][]api.Up{nil, {u(0, 1, high, 0), u(0, 0, -1, 0), u(0, 0, 1, 0)}}, at(0, 1), api.OK},
		{"a sum of later changes", [][]api.Up{nil, {u(0, 1, high, 0), u(0, 2, 1, 0)}}, at(0, 1), api.OK},
		{"a number of the map", [][]api.Up{{u(0, 0, 1, 1)}, nil}, at(0, 0), api.ErrOver},
		{"a number of the map, later", [][]api.Up{{u(0, 1, 1, 1)}, nil}, at(0, 0), api.OK},
	} {
		if got, e := deno.At(p, k.inputs, k.when); e != k.want || e != api.OK && len(got) != 0 {
			t.Errorf("%s: At = %v, %d, want %d", k.name, got, e, k.want)
		}
	}
	long := planOf(input(text), input(num), fed(mapped(of(api.OpCat, col(0), col(0))), 0))
	texts := []api.Up{{Row: api.Row{s(long2())}, Diff: 1}}
	sum := []api.Up{u(0, 0, high, 0), u(0, 0, 1, 0)}
	if got, e := deno.At(long, [][]api.Up{texts, nil}, at(0, 0)); len(got) != 0 || e != api.ErrLong {
		t.Errorf("a text that is too long: %v, %d", got, e)
	}
	if got, e := deno.At(long, [][]api.Up{texts, sum}, at(0, 0)); len(got) != 0 || e != api.ErrOver {
		t.Errorf("a sum of the second list, ahead of a text that is too long: %v, %d", got, e)
	}
}

// long2 is a text of which two together are too long.
func long2() string { return long()[:api.MaxText/2+1] }

func TestFirstNodeWithAnError(t *testing.T) { // P18.2: in plan.Order, whether an out hangs on it or not
	over := fed(mapped(of(api.OpAdd, col(0), number(high))), 0)
	tooLong := fed(mapped(of(api.OpCat, col(1), col(1))), 0)
	both := lists(list(c(1, n(1), s(long2()))))
	first, second := planOf(input(num, text), over, tooLong), planOf(input(num, text), tooLong, over)
	holdWholeRefused(t, "over ahead of long", first, both, api.ErrOver)
	holdWholeRefused(t, "long ahead of over", second, both, api.ErrLong)
	for out := range 3 {
		first.Outs, second.Outs = []int{out}, []int{out}
		holdWholeRefused(t, "over ahead of long, whatever is an out", first, both, api.ErrOver)
		holdWholeRefused(t, "long ahead of over, whatever is an out", second, both, api.ErrLong)
	}
	// A lower node that waits for its in comes behind a higher one that need not.
	waits := planOf(fed(mapped(of(api.OpAdd, col(0), number(high))), 3), input(num, text), fed(mapped(of(api.OpCat, col(1), col(1))), 1), fed(plain(api.NodeNegate), 1))
	holdWholeRefused(t, "the order, not the number", waits, both, api.ErrLong)
	waits.Nodes[0].Ins[0] = 1
	holdWholeRefused(t, "the number, where both may be next", waits, both, api.ErrOver)
	// An input behind another node that has an error.
	late := planOf(input(num, text), tooLong, input(num))
	sum := list(o(high, 1), o(1, 1))
	holdCountsRefused(t, "a text, ahead of a later input's sum", late, append(both, sum), api.ErrLong)
	holdCountsRefused(t, "a later input's sum", late, lists(nil, sum), api.ErrOver)
	early := planOf(input(num, text), input(num), tooLong)
	holdCountsRefused(t, "an input's sum, ahead of a text", early, append(both, sum), api.ErrOver)
	// Errors of nodes behind others.
	deep := planOf(input(num), fed(plain(api.NodeConcat), 0, 0), fed(join(1), 1, 1), fed(keyed(api.NodeSum, 0, 0), 2))
	holdCounts(t, "a sum of products", deep, lists(list(o(5, 7))), lists(list(o(1, 700))))
	holdWholeRefused(t, "a concat", deep, lists(list(o(high/2+1, 7))), api.ErrOver)
	holdWholeRefused(t, "a product", deep, lists(list(o(1<<31, 7))), api.ErrOver)
	holdWholeRefused(t, "a sum", deep, lists(list(o(5, high/50))), api.ErrOver)
}

func holdCountsRefused(t *testing.T, name string, p api.Plan, inputs [][]api.Count, want api.Errno) {
	t.Helper()
	if got, e := deno.Counts(p, inputs); len(got) != 0 || e != want {
		t.Errorf("%s: Counts = %v, %d, want error %d", name, got, e, want)
	}
}

package audit_test

import (
	"fmt"
	"reflect"
	"runtime"
	"slices"
	"testing"
	"unsafe"
	"weak"

	"runnel/api"
	"runnel/audit"
)

// withRoom is a list in memory of its own, with these things in the spare room behind it.
func withRoom[T any](l []T, behind ...T) []T {
	all := make([]T, 0, len(l)+len(behind))
	all = append(append(all, l...), behind...)
	return all[:len(l)]
}

// everything is a list with its spare room.
func everything[T any](l []T) []T { return l[:cap(l)] }

// each is a list with something done to each thing of it.
func each[T any](l []T, do func(T) T) []T {
	var done []T
	for _, x := range l {
		done = append(done, do(x))
	}
	return done
}

// spoilList writes over all of a list, spare room too.
func spoilList[T any](l []T, x T) {
	for i := range everything(l) {
		everything(l)[i] = x
	}
}

// given is what the calls are handed.
type given struct {
	p, q   api.Plan
	inputs [][]api.Count
	of     api.Row
}

func roomyRow(l api.Row) api.Row { return withRoom(l, r("spare", 77)...) }

func roomyCounts(l []api.Count) []api.Count {
	roomy := func(x api.Count) api.Count { return api.Count{Row: roomyRow(x.Row), Diff: x.Diff} }
	return withRoom(each(l, roomy), roomy(c(5, 6)), roomy(c(78, "spare")))
}

func roomyNode(k api.Node) api.Node {
	k.Ins, k.Kinds, k.Cols = withRoom(k.Ins, 71, 72), withRoom(k.Kinds, 73, 74), withRoom(k.Cols, 75, 76)
	terms := func(l []api.Term) []api.Term { return withRoom(l, api.Term{Op: 77, Int: 78, Str: "spare"}) }
	k.Exprs = withRoom(each(k.Exprs, terms), terms(number(1)))
	return k
}

func roomyPlan(p api.Plan) api.Plan {
	p.Nodes = withRoom(each(p.Nodes, roomyNode), roomyNode(input(num)), roomyNode(negate(0)))
	p.Outs = withRoom(p.Outs, 0, 1)
	return p
}

// roomy is what is handed in, in memory of its own, with spare room behind each of its lists.
func roomy(g given) given {
	g.p, g.q, g.of = roomyPlan(g.p), roomyPlan(g.q), roomyRow(g.of)
	g.inputs = withRoom(each(g.inputs, roomyCounts), roomyCounts(list(c(1, 1))))
	return g
}

func wholeRow(l api.Row) api.Row { return slices.Clone(everything(l)) }

func wholeNode(k api.Node) api.Node {
	k.Ins, k.Kinds, k.Cols = slices.Clone(everything(k.Ins)), slices.Clone(everything(k.Kinds)), slices.Clone(everything(k.Cols))
	k.Exprs = each(everything(k.Exprs), func(l []api.Term) []api.Term { return slices.Clone(everything(l)) })
	return k
}

func wholePlan(p api.Plan) api.Plan {
	p.Nodes, p.Outs = each(everything(p.Nodes), wholeNode), slices.Clone(everything(p.Outs))
	return p
}

// whole is a copy of all that lies in what is handed in, spare room too.
func whole(g given) given {
	g.p, g.q, g.of = wholePlan(g.p), wholePlan(g.q), wholeRow(g.of)
	g.inputs = each(everything(g.inputs), func(l []api.Count) []api.Count {
		return each(everything(l), func(x api.Count) api.Count { x.Row = wholeRow(x.Row); return x })
	})
	return g
}

func spoilRow(l api.Row) { spoilList(l, api.Val{Kind: 1, Int: -79, Str: "spoilt"}) }

func spoilCounts(l [][]api.Count) {
	for _, one := range everything(l) {
		for _, x := range everything(one) {
			spoilRow(x.Row)
		}
		spoilList(one, api.Count{Diff: -80})
	}
	spoilList(l, nil)
}

func spoilPlan(p api.Plan) {
	for _, k := range everything(p.Nodes) {
		spoilList(k.Ins, -81)
		spoilList(k.Kinds, -82)
		spoilList(k.Cols, -83)
		for _, l := range everything(k.Exprs) {
			spoilList(l, api.Term{Op: -84})
		}
		spoilList(k.Exprs, nil)
	}
	spoilList(p.Nodes, api.Node{Kind: -85})
	spoilList(p.Outs, -86)
}

func spoil(g given) {
	spoilPlan(g.p)
	spoilPlan(g.q)
	spoilCounts(g.inputs)
	spoilRow(g.of)
}

// told is all that the calls answer, of several outs and lists.
type told struct {
	lists  [][][]api.Count // Without's, Why's and What's
	first  api.Row
	counts []int
	errs   []int
}

func ask(g given) told {
	var a told
	for i := -1; i < 3; i++ {
		n, e := audit.Count(g.p, g.inputs, i, g.of)
		a.counts, a.errs = append(a.counts, n), append(a.errs, int(e))
		a.lists = append(a.lists, audit.Without(g.inputs, i, g.of))
		why, e := audit.Why(g.p, g.inputs, i, g.of)
		a.lists, a.errs = append(a.lists, why), append(a.errs, int(e))
		what, e := audit.What(g.p, g.inputs, i, g.of)
		a.lists, a.errs = append(a.lists, what), append(a.errs, int(e))
	}
	out, first, e := audit.Agree(g.p, g.q, g.inputs)
	a.first, a.counts, a.errs = first, append(a.counts, out), append(a.errs, int(e))
	return a
}

// String is what is told, nil and empty lists alike; of values only what tells.
func (a told) String() string {
	names := []string{name(a.first)}
	for _, told := range a.lists {
		for i, l := range told {
			for _, x := range l {
				names = append(names, fmt.Sprint(i, " ", x.Diff, " ", name(x.Row)))
			}
		}
		names = append(names, fmt.Sprint("of ", len(told)))
	}
	return fmt.Sprint(a.counts, a.errs, names)
}

// memoryCases are calls of each sort, good and bad.
func memoryCases() []given {
	seven := lists(list(c(1, 4), c(1, 2), c(1, 1)))
	several := lists(list(c(2, 1), c(1, 1), c(1, 2), c(0, 3), c(1, 4), c(-1, 4)), list(c(1, 1)))
	both := outsAre(planOf(input(num), input(num), concat(0, 1), negate(2)), 2, 0, 3, 2, 1)
	l := []given{
		{shop(), outsAre(shop(), 4, 3, 3), orders(), r(1, 17)}, {shop(), shop(), orders(), r(1, 5)}, {shop(), outsAre(shop(), 5, 3, 4), orders(), r(1)},
		{both, outsAre(both, 2, 0, 3, 1, 1), several, r(1)}, {both, outsAre(both, 2), several, r(2)}, {both, both, several, nil},
		{great(), great(), greatLists(), nil}, {great(), great(), greatLists(), r(5)}, {trap(6, 5), trap(5, 6), seven, r(7)}, {trap(9, 8), trap(8, 9), seven, r(2)}, {trap(9, 8), trap(9, 7), seven, r(7)},
		{planOf(input()), outsAre(planOf(input(), negate(0)), 1), lists(list(c(1), c(2))), nil}, {api.Plan{}, api.Plan{}, nil, nil}, {shop(), shop(), nil, nil},
	}
	for _, k := range slices.Concat(wrongPlans(), wrongLists()) {
		l = append(l, given{k.p, shop(), k.inputs, r(1)}, given{shop(), k.p, orders(), r(1, 7)})
	}
	x := chance(99)
	for i := range 60 {
		p := drawPlan(&x, 1+i%3, 2+x.below(6), anyKind)
		inputs := drawLists(&x, p, 5, small(&x))
		l = append(l, given{p, changed(&x, p), inputs, anyOf(&x, rowsOf(slices.Concat(inputs...))...)})
	}
	return l
}

func TestWhatIsHandedInIsLeft(t *testing.T) { // the rule of memory: neither changed nor kept, spare room included: plans, lists of lists with their rows, the row
	for i, g := range memoryCases() {
		want := ask(g).String()
		in := roomy(g)
		before := whole(in)
		got := ask(in)
		if !reflect.DeepEqual(whole(in), before) {
			t.Fatalf("case %d: it was changed, or its spare room", i)
		}
		spoil(in)
		if got.String() != want {
			t.Fatalf("case %d: what was handed in is written over, and so is what was told: %s; want %s", i, brief(got), brief(want))
		}
	}
}

// places are where the things of lists lie, each of which may be there but once. They keep what was told, so that no memory is told twice only because it came to be free.
type places map[unsafe.Pointer]string

func take[T any](t *testing.T, p places, at string, l []T) {
	t.Helper()
	for i := range everything(l) {
		place := unsafe.Pointer(&everything(l)[i])
		if other, there := p[place]; there {
			t.Fatalf("%s lies where %s does", at, other)
		}
		p[place] = at
	}
}

func takeLists(t *testing.T, p places, at string, l [][]api.Count) (rows int) {
	t.Helper()
	take(t, p, at, l)
	for i, one := range everything(l) {
		take(t, p, fmt.Sprintf("%s, list %d", at, i), one)
		for j, x := range everything(one) {
			take(t, p, fmt.Sprintf("%s, list %d, row %d", at, i, j), x.Row)
			rows += min(1, len(x.Row))
		}
	}
	return rows
}

func TestAnswersAreTheirOwn(t *testing.T) { // the rule of memory: no list, spare room too, lies where another one does, or what was handed in
	taken, rows := places{}, 0
	for i, g := range memoryCases() {
		in := roomy(g)
		at := fmt.Sprint("case ", i)
		takeLists(t, taken, at+": given", in.inputs)
		take(t, taken, at+": the row that is given", in.of)
		for range 2 {
			a := ask(in)
			for j, l := range a.lists {
				rows += takeLists(t, taken, fmt.Sprintf("%s: answer %d", at, j), l)
			}
			take(t, taken, at+": Agree's row", a.first)
		}
	}
	if rows < 3000 {
		t.Fatalf("only %d rows", rows)
	}
}

func TestOneRowManyTimes(t *testing.T) { // the rule of memory: a row that comes in several lists of one answer, also where lists that are handed in share it, and the row that is asked for is it
	of := r(1)
	one := list(api.Count{Row: of, Diff: 2}, api.Count{Row: of, Diff: 1}, c(1, 2))
	l := lists(one, one)
	p := outsAre(planOf(input(num), input(num), concat(0, 1)), 2, 0, 2, 1, 2)
	taken := places{}
	take(t, taken, "the row", of)
	for in := range 3 {
		want := lists(one, one)
		if in < len(want) {
			want[in] = list(c(1, 2))
		}
		got := audit.Without(l, in, of)
		if !sameLists(got, want) {
			t.Fatalf("Without of list %d = %v, want %v", in, got, want)
		}
		takeLists(t, taken, fmt.Sprint("Without of list ", in), got)
	}
	why, _ := audit.Why(p, l, 0, of)
	if !sameLists(why, lists(list(c(3, 1)), list(c(3, 1)))) {
		t.Fatalf("Why = %v", why)
	}
	takeLists(t, taken, "Why", why)
	what, _ := audit.What(p, l, 0, of)
	if !sameLists(what, lists(list(c(3, 1)), list(c(3, 1)), list(c(3, 1)), nil, list(c(3, 1)))) {
		t.Fatalf("What = %v", what)
	}
	takeLists(t, taken, "What", what)
	_, first, _ := audit.Agree(p, outsAre(p, 0, 0, 0, 0, 0), l)
	if !sameRow(first, of) {
		t.Fatalf("Agree = %v", first)
	}
	take(t, taken, "Agree", first)
}

func TestPartsOfOneAnswer(t *testing.T) { // the rule of memory: one list, or one row, is written over and made longer, and the others stay
	p := outsAre(planOf(input(num), input(num), concat(0, 1)), 2, 0, 2, 1)
	l := lists(list(c(2, 1), c(1, 2)), list(c(3, 1), c(1, 3)))
	for at, tell := range map[string]func() [][]api.Count{
		"Without": func() [][]api.Count { return audit.Without(l, 0, r(2)) },
		"Why":     func() [][]api.Count { got, _ := audit.Why(p, l, 0, r(1)); return got },
		"What":    func() [][]api.Count { got, _ := audit.What(p, l, 1, r(1)); return got },
	} {
		want := tell()
		for i := range want {
			got := tell()
			for j := range got[i] {
				got[i][j].Row = append(got[i][j].Row, r(9)...)
				spoilRow(got[i][j].Row)
			}
			got[i] = append(got[i], c(5, 5), c(6, 6))
			spoilList(got[i], c(-80, -80))
			got[i] = want[i]
			if !sameLists(got, want) {
				t.Fatalf("%s: list %d is written over: %v, want %v", at, i, got, want)
			}
		}
	}
}

func TestTheSameTwice(t *testing.T) { // from arguments alone: the same, in the same order, also behind other calls, behind errors, and where an answer is written over
	var first []string
	for _, g := range memoryCases() {
		first = append(first, ask(g).String())
	}
	for round := range 2 {
		for i, g := range memoryCases() {
			a := ask(g)
			if got := a.String(); got != first[i] {
				t.Fatalf("round %d, case %d: %s, want %s", round, i, brief(got), brief(first[i]))
			}
			for _, l := range a.lists {
				spoilCounts(l)
			}
			spoilRow(a.first)
			if got := ask(g).String(); got != first[i] {
				t.Fatalf("round %d, case %d, written over: %s, want %s", round, i, brief(got), brief(first[i]))
			}
		}
	}
}

func TestZerosBesideErrors(t *testing.T) { // the rule of the first error: every other result is zero
	seen := map[api.Errno]int{}
	for i, g := range memoryCases() {
		for at := -1; at < 4; at++ {
			if n, e := audit.Count(g.p, g.inputs, at, g.of); e != api.OK {
				refused(t, fmt.Sprint("case ", i), e, e, n == 0)
				seen[e]++
			}
			if why, e := audit.Why(g.p, g.inputs, at, g.of); e != api.OK {
				refused(t, fmt.Sprint("case ", i), e, e, why == nil)
				seen[e]++
			}
			if what, e := audit.What(g.p, g.inputs, at, g.of); e != api.OK {
				refused(t, fmt.Sprint("case ", i), e, e, what == nil)
				seen[e]++
			}
		}
		if out, of, e := audit.Agree(g.p, g.q, g.inputs); e != api.OK {
			refused(t, fmt.Sprint("case ", i), e, e, out == 0 && of == nil)
			seen[e]++
		}
	}
	for _, e := range []api.Errno{api.ErrArg, api.ErrLong, api.ErrMany, api.ErrNone, api.ErrForm, api.ErrKind, api.ErrRange, api.ErrOver, api.ErrType, api.ErrLoop} {
		if seen[e] == 0 {
			t.Errorf("%d never came", int(e))
		}
	}
}

func TestWhatIsGoneIsNotKept(t *testing.T) { // no more is kept than is needed: no answer keeps what was handed in
	g := roomy(given{shop(), outsAre(shop(), 5, 4, 3), orders(), r(1, 17)})
	var rows []weak.Pointer[api.Val]
	for _, l := range g.inputs {
		for _, x := range l {
			rows = append(rows, weak.Make(&x.Row[0]))
		}
	}
	rows = append(rows, weak.Make(&g.of[0]))
	a := ask(g)
	g = given{}
	runtime.GC()
	runtime.GC()
	for i, x := range rows {
		if x.Value() != nil {
			t.Fatalf("row %d is kept", i)
		}
	}
	runtime.KeepAlive(a)
}

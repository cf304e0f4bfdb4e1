package deno_test

import (
	"fmt"
	"reflect"
	"slices"
	"testing"
	"unsafe"

	"runnel/api"
	"runnel/deno"
)

// given is what the calls are handed: a node and what its ins have, a plan and what its inputs have, or get.
type given struct {
	node   api.Node
	ins    [][]api.Count
	plan   api.Plan
	inputs [][]api.Count
	ups    [][]api.Up
	when   api.Time
	kinds  []int
	l      []api.Up
}

// told is what they answer.
type told struct {
	node       []api.Count
	counts, at [][]api.Count
	errs       [4]api.Errno
}

func tell(g given) told {
	var a told
	a.node, a.errs[0] = deno.Node(g.node, g.ins)
	a.counts, a.errs[1] = deno.Counts(g.plan, g.inputs)
	a.at, a.errs[2] = deno.At(g.plan, g.ups, g.when)
	a.errs[3] = deno.Fits(g.kinds, g.l)
	return a
}

// lists are all lists of rows that are told.
func (a told) lists() [][]api.Count { return slices.Concat(lists(a.node), a.counts, a.at) }

// String is what is told, nil and empty lists alike.
func (a told) String() string {
	var numbers []int
	for _, e := range a.errs {
		numbers = append(numbers, int(e))
	}
	return fmt.Sprint(numbers, a.node, a.counts, a.at)
}

// memoryCases are calls of each sort, good and bad.
func memoryCases() []given {
	var l []given
	for _, k := range slices.Concat(simpleMade(), groupMade(), joinMade()) {
		l = append(l, given{node: k.node, ins: k.ins})
	}
	for _, k := range slices.Concat(rowFaults(), groupFaults(), joinFaults(), sumFaults()) {
		l = append(l, given{node: k.node, ins: k.ins})
	}
	for _, outs := range [][]int{{0, 1, 1, 2, 3, 4, 4, 5}, {6, 7, 8, 9, 10, 11, 12, 13}, {14, 15, 16, 16, 0, 1, 4, 8}, {99}} {
		l = append(l, given{plan: everyKind(outs...), inputs: everyInput(), ups: atOnce(everyInput())})
	}
	for _, k := range spoiltChanges() {
		l = append(l, given{kinds: []int{num, text}, l: append(goodChanges(), k.change)})
		bad := lists(list(c(2, n(1), s("a")), api.Count{Row: k.change.Row, Diff: 1}))
		l = append(l, given{plan: planOf(input(num, text)), inputs: bad, ups: [][]api.Up{append(goodChanges(), k.change)}})
	}
	x := chance(7)
	for range 60 {
		p := x.good(1 + x.below(8))
		inputs := x.inputs(p, 0)
		l = append(l, given{plan: p, inputs: inputs, ups: x.spread(inputs), when: x.time()})
	}
	return append(l, given{kinds: []int{num, text}, l: goodChanges()}, given{plan: planOf(input(num)), inputs: lists(nil), ups: [][]api.Up{nil}})
}

// withRoom is the list with spare room behind it, which is filled.
func withRoom[T any](l []T, spare ...T) []T {
	return slices.Clip(append(slices.Clip(slices.Clone(l)), spare...))[:len(l)]
}

// each is the list with something done to each thing of it.
func each[T any](l []T, do func(T) T) []T {
	var done []T
	for _, x := range l {
		done = append(done, do(x))
	}
	return done
}

func roomyRow(l api.Row) api.Row { return withRoom(l, s("spare"), n(77)) }

func roomyCounts(l []api.Count) []api.Count {
	roomy := func(x api.Count) api.Count { return api.Count{Row: roomyRow(x.Row), Diff: x.Diff} }
	return withRoom(each(l, roomy), roomy(o(5, 6)), roomy(c(78)))
}

func roomyUps(l []api.Up) []api.Up {
	roomy := func(x api.Up) api.Up { x.Row = roomyRow(x.Row); return x }
	return withRoom(each(l, roomy), roomy(u(1, 2, 3, 4)), roomy(api.Up{Diff: 79}))
}

func roomyNode(k api.Node) api.Node {
	k.Ins, k.Kinds, k.Cols = withRoom(k.Ins, 71, 72), withRoom(k.Kinds, 73, 74), withRoom(k.Cols, 75, 76)
	terms := func(l []api.Term) []api.Term { return withRoom(l, api.Term{Op: 77, Int: 78, Str: "spare"}) }
	k.Exprs = withRoom(each(k.Exprs, terms), terms(number(1)))
	return k
}

// roomy is what is handed in with spare room behind each of its lists.
func roomy(g given) given {
	g.node = roomyNode(g.node)
	g.plan.Nodes = withRoom(each(g.plan.Nodes, roomyNode), roomyNode(input(num)), roomyNode(join(1)))
	g.plan.Outs = withRoom(g.plan.Outs, 0, 1)
	g.ins = withRoom(each(g.ins, roomyCounts), roomyCounts(some()))
	g.inputs = withRoom(each(g.inputs, roomyCounts), roomyCounts(some()))
	g.ups = withRoom(each(g.ups, roomyUps), roomyUps(nil))
	g.kinds, g.l = withRoom(g.kinds, 0, 1), roomyUps(g.l)
	return g
}

// all is a list with its spare room.
func all[T any](l []T) []T { return l[:cap(l)] }

// wholeList is a copy of a list and of its spare room, with something done to each thing.
func wholeList[T any](l []T, do func(T) T) []T { return each(all(l), do) }

func itself[T any](x T) T { return x }

func wholeRow(l api.Row) api.Row { return wholeList(l, itself) }

func wholeCounts(l []api.Count) []api.Count {
	return wholeList(l, func(x api.Count) api.Count { x.Row = wholeRow(x.Row); return x })
}

func wholeUps(l []api.Up) []api.Up {
	return wholeList(l, func(x api.Up) api.Up { x.Row = wholeRow(x.Row); return x })
}

func wholeNode(k api.Node) api.Node {
	k.Ins, k.Kinds, k.Cols = wholeList(k.Ins, itself), wholeList(k.Kinds, itself), wholeList(k.Cols, itself)
	k.Exprs = wholeList(k.Exprs, func(l []api.Term) []api.Term { return wholeList(l, itself) })
	return k
}

// whole is a copy of all that lies in what is handed in, spare room too.
func whole(g given) given {
	g.node = wholeNode(g.node)
	g.plan.Nodes, g.plan.Outs = wholeList(g.plan.Nodes, wholeNode), wholeList(g.plan.Outs, itself)
	g.ins, g.inputs = wholeList(g.ins, wholeCounts), wholeList(g.inputs, wholeCounts)
	g.ups = wholeList(g.ups, wholeUps)
	g.kinds, g.l = wholeList(g.kinds, itself), wholeUps(g.l)
	return g
}

// spoilList writes over a list, spare room too.
func spoilList[T any](l []T, x T) {
	for i := range all(l) {
		all(l)[i] = x
	}
}

func spoilCounts(l []api.Count) {
	for _, x := range all(l) {
		spoilList(x.Row, s("over"))
	}
	spoilList(l, o(-81, 82))
}

func spoilUps(l []api.Up) {
	for _, x := range all(l) {
		spoilList(x.Row, s("over"))
	}
	spoilList(l, u(-83, -84, -85, 86))
}

func spoilNode(k api.Node) {
	spoilList(k.Ins, -91)
	spoilList(k.Kinds, -92)
	spoilList(k.Cols, -93)
	for _, l := range all(k.Exprs) {
		spoilList(l, api.Term{Op: -94})
	}
	spoilList(k.Exprs, nil)
}

// spoilGiven writes over all that was handed in.
func spoilGiven(g given) {
	spoilNode(g.node)
	for _, k := range all(g.plan.Nodes) {
		spoilNode(k)
	}
	spoilList(g.plan.Nodes, api.Node{Kind: -95})
	spoilList(g.plan.Outs, -96)
	for _, l := range slices.Concat(all(g.ins), all(g.inputs)) {
		spoilCounts(l)
	}
	spoilList(g.ins, nil)
	spoilList(g.inputs, nil)
	for _, l := range all(g.ups) {
		spoilUps(l)
	}
	spoilList(g.ups, nil)
	spoilList(g.kinds, -97)
	spoilUps(g.l)
}

func TestWhatIsHandedInIsLeft(t *testing.T) { // the rule of memory: neither changed nor kept, spare room included
	for _, g := range memoryCases() {
		want := tell(g).String()
		roomed := roomy(g)
		before := whole(roomed)
		got := tell(roomed)
		if !reflect.DeepEqual(whole(roomed), before) {
			t.Errorf("%+v was changed to %+v", before, whole(roomed))
		}
		if got.String() != want {
			t.Errorf("with spare room %v, without %v", got, want)
		}
		if spoilGiven(roomed); got.String() != want {
			t.Errorf("what was handed in is written over, and so is what was told: %v, %v", got, want)
		}
		if other := tell(roomy(g)).String(); other != want {
			t.Errorf("told again: %v, %v", other, want)
		}
	}
}

// places are where the things of lists lie, each of which may be there but once.
type places map[unsafe.Pointer]string

func take[T any](t *testing.T, p places, name string, l []T) {
	t.Helper()
	for i := range all(l) {
		place := unsafe.Pointer(&all(l)[i])
		if other, there := p[place]; there {
			t.Fatalf("%s lies where %s does", name, other)
		}
		p[place] = name
	}
}

func takeCounts(t *testing.T, p places, name string, l []api.Count) {
	t.Helper()
	take(t, p, name, l)
	for _, x := range all(l) {
		take(t, p, name, x.Row)
	}
}

func takeUps(t *testing.T, p places, l []api.Up) {
	t.Helper()
	take(t, p, "changes", l)
	for _, x := range all(l) {
		take(t, p, "a change's row", x.Row)
	}
}

func TestAnswersAreTheirOwn(t *testing.T) { // the rule of memory: lists and rows, spare room too, of one answer and of several
	taken := places{} // it keeps what was told, so that no memory is told twice only because it came to be free
	for i, g := range memoryCases() {
		roomed := roomy(g)
		take(t, taken, "ins", roomed.ins)
		take(t, taken, "inputs", roomed.inputs)
		take(t, taken, "inputs' changes", roomed.ups)
		for _, l := range slices.Concat(all(roomed.ins), all(roomed.inputs)) {
			takeCounts(t, taken, "what is handed in", l)
		}
		for _, l := range append(slices.Clone(all(roomed.ups)), roomed.l) {
			takeUps(t, taken, l)
		}
		for round := range 2 {
			a := tell(roomed)
			name := fmt.Sprintf("case %d, answer %d", i, round)
			take(t, taken, name, a.counts)
			take(t, taken, name, a.at)
			for _, l := range slices.Concat(lists(a.node), all(a.counts), all(a.at)) {
				takeCounts(t, taken, name, l)
			}
		}
	}
}

func TestAnswersAreWrittenOver(t *testing.T) { // the rule of memory: what is done to one list or row of an answer is seen in no other, and not in what was handed in
	for _, g := range memoryCases() {
		roomed := roomy(g)
		before, want := whole(roomed), tell(roomed).String()
		for i := range tell(roomed).lists() {
			got, other := tell(roomed), tell(roomed)
			l := got.lists()[i]
			rest := slices.Delete(got.lists(), i, i+1)
			was := fmt.Sprint(rest)
			for j := range l {
				later := fmt.Sprint(l[j+1:])
				spoilList(l[j].Row, s("over"))
				spoilList(append(l[j].Row, n(-98)), n(-99))
				if fmt.Sprint(l[j+1:]) != later {
					t.Fatalf("one row is written over, and so are others: %v, %v", l, later)
				}
			}
			spoilCounts(append(l, o(1, 1)))
			spoilCounts(l)
			if fmt.Sprint(rest) != was {
				t.Fatalf("one list is written over, and so are others: %v, %v", rest, was)
			}
			if other.String() != want || tell(roomed).String() != want {
				t.Fatalf("one answer is written over, and so is another: %v, %v", other, want)
			}
		}
		a := tell(roomed)
		spoilList(append(a.counts, nil), nil)
		spoilList(append(a.at, nil), nil)
		if tell(roomed).String() != want || !reflect.DeepEqual(whole(roomed), before) {
			t.Fatalf("%+v was changed with an answer to %+v", before, whole(roomed))
		}
	}
}

func TestListsThatAreOne(t *testing.T) { // the rule of memory: ins, rows and nodes' lists that have memory in common
	one := r(1, 5)
	l := list(api.Count{Row: one, Diff: 2}, api.Count{Row: one[:1], Diff: 1}, api.Count{Row: one, Diff: 1})
	for _, k := range []made{
		{"concat", plain(api.NodeConcat), lists(l, l, l[:1]), list(o(2, 1), o(8, 1, 5))},
		{"join", join(1), lists(l, l), list(o(1, 1), o(6, 1, 5), o(9, 1, 5, 5))},
		{"consolidate", plain(api.NodeConsolidate), lists(l), list(o(1, 1), o(3, 1, 5))},
	} {
		holdMade(t, []made{k})
		got, _ := deno.Node(k.node, k.ins)
		taken := places{}
		take(t, taken, "a row that is handed in", one)
		take(t, taken, "a list that is handed in", l)
		takeCounts(t, taken, k.name, got)
	}
	ins, kinds := []int{0, 0}, []int{num, num}
	p := planOf(input(kinds...), api.Node{Kind: api.NodeJoin, Ins: ins, Key: 1}, input(kinds...), api.Node{Kind: api.NodeConcat, Ins: ins})
	p.Outs = ins
	pairs := list(o(1, 3, 4), o(2, 1, 2))
	want := lists(list(o(2, 1, 2), o(1, 3, 4)), list(o(2, 1, 2), o(1, 3, 4)))
	holdCounts(t, "inputs with one list", p, lists(pairs, pairs), want)
	ups := atOnce(lists(pairs))[0]
	holdAt(t, "inputs with one list of changes", p, [][]api.Up{ups, ups}, at(0, 0), want)
}

func TestAnswersHangOnArgumentsAlone(t *testing.T) { // also behind other calls, and behind faults
	var first []string
	for _, g := range memoryCases() {
		first = append(first, tell(g).String())
	}
	for range 2 {
		for i, g := range slices.Backward(memoryCases()) {
			if got := tell(g).String(); got != first[i] {
				t.Errorf("once %v, then %v", first[i], got)
			}
		}
	}
}

package linear_test

import (
	"fmt"
	"reflect"
	"slices"
	"testing"
	"unsafe"

	"runnel/api"
	"runnel/linear"
)

// given is what the calls are handed: a node and changes, of which Do is handed the first.
type given struct {
	node api.Node
	l    []api.Up
}

// told is what they answer.
type told struct {
	one, all       []api.Up
	oneErr, allErr int
}

func tell(g given) told {
	var a told
	if len(g.l) > 0 {
		made, e := linear.Do(g.node, g.l[0])
		a.one, a.oneErr = made, int(e)
	}
	made, e := linear.All(g.node, g.l)
	a.all, a.allErr = made, int(e)
	return a
}

// String is what is told, nil and empty lists alike.
func (a told) String() string { return fmt.Sprint(a.one, a.all, a.oneErr, a.allErr) }

// lists are all lists of changes that are told.
func (a told) lists() [][]api.Up { return [][]api.Up{a.one, a.all} }

// memoryCases are calls of each kind, good and bad.
func memoryCases() []given {
	var l []given
	for _, k := range allDone() {
		u := api.Up{Row: k.row, Time: at(1, 2), Diff: 3}
		l = append(l, given{k.node, ups(u)}, given{k.node, ups(u, u, u)})
	}
	for _, k := range allListed() {
		l = append(l, given{k.node, k.l})
	}
	for _, k := range append(rowFaults(), orderFaults()...) {
		l = append(l, given{k.node, ups(k.change(at(0, 1)))})
	}
	x := chance(7)
	for range 200 {
		kinds := x.kinds(4)
		k := x.node(kinds, false)
		l = append(l, given{k.Node, x.changes(kinds, 6, 60, false)})
	}
	return append(l, given{concat(), nil}, given{api.Node{Kind: api.NodeJoin}, nil})
}

// withRoom is the list with spare room behind it, which is filled.
func withRoom[T any](l []T, spare ...T) []T {
	return slices.Clip(append(slices.Clip(slices.Clone(l)), spare...))[:len(l)]
}

// forEach is the list with something done to each thing of it.
func forEach[T any](l []T, do func(T) T) []T {
	var done []T
	for _, x := range l {
		done = append(done, do(x))
	}
	return done
}

func roomyUps(l []api.Up) []api.Up {
	roomy := func(u api.Up) api.Up { u.Row = withRoom(u.Row, s("spare"), n(77)); return u }
	return withRoom(forEach(l, roomy), roomy(up(r(4), 1, 2, 3)), roomy(api.Up{Diff: 79}))
}

// roomy is what is handed in with spare room behind each of its lists.
func roomy(g given) given {
	k := g.node
	k.Ins, k.Kinds, k.Cols = withRoom(k.Ins, 71, 72), withRoom(k.Kinds, 73, 74), withRoom(k.Cols, 75, 76)
	terms := func(l []api.Term) []api.Term { return withRoom(l, api.Term{Op: 77, Int: 78, Str: "spare"}) }
	k.Exprs = withRoom(forEach(k.Exprs, terms), terms(number(1)))
	return given{k, roomyUps(g.l)}
}

// all is a list with its spare room.
func all[T any](l []T) []T { return l[:cap(l)] }

// wholeList is a copy of a list and of its spare room, with something done to each thing.
func wholeList[T any](l []T, do func(T) T) []T { return forEach(all(l), do) }

func itself[T any](x T) T { return x }

func wholeUps(l []api.Up) []api.Up {
	return wholeList(l, func(u api.Up) api.Up { u.Row = wholeList(u.Row, itself); return u })
}

// whole is a copy of all that lies in what is handed in, spare room too.
func whole(g given) given {
	k := g.node
	k.Ins, k.Kinds, k.Cols = wholeList(k.Ins, itself), wholeList(k.Kinds, itself), wholeList(k.Cols, itself)
	k.Exprs = wholeList(k.Exprs, func(l []api.Term) []api.Term { return wholeList(l, itself) })
	return given{k, wholeUps(g.l)}
}

// spoilList writes over what is appended to a list, and over the list itself, spare room too.
func spoilList[T any](l []T, x T) {
	for _, part := range [][]T{append(l, x), all(l)} {
		for i := range part {
			part[i] = x
		}
	}
}

func spoilUps(l []api.Up) {
	for _, u := range all(l) {
		spoilList(u.Row, s("over"))
	}
	spoilList(l, up(r(86), -83, -84, -85))
}

// spoilGiven writes over all that was handed in.
func spoilGiven(g given) {
	spoilList(g.node.Ins, -91)
	spoilList(g.node.Kinds, -92)
	spoilList(g.node.Cols, -93)
	for _, l := range all(g.node.Exprs) {
		spoilList(l, api.Term{Op: -94})
	}
	spoilList(g.node.Exprs, nil)
	spoilUps(g.l)
}

func TestWhatIsHandedInIsLeft(t *testing.T) { // the rule of memory: neither changed nor kept, spare room included
	for _, g := range memoryCases() {
		want := tell(g).String()
		roomed := roomy(g)
		before := whole(roomed)
		got := tell(roomed)
		if !reflect.DeepEqual(whole(roomed), before) {
			t.Errorf("%+v was changed to %+v", before, whole(roomed))
		}
		if got.String() != want {
			t.Errorf("with spare room %v, without %v", got, want)
		}
		if spoilGiven(roomed); got.String() != want {
			t.Errorf("what was handed in is written over, and so is what was told: %v, %v", got, want)
		}
		if other := tell(roomy(g)).String(); other != want {
			t.Errorf("told again: %v, %v", other, want)
		}
	}
}

// places are where the things of lists lie, each of which may be there but once.
type places map[unsafe.Pointer]string

func take[T any](t *testing.T, p places, name string, l []T) {
	t.Helper()
	for i := range all(l) {
		place := unsafe.Pointer(&all(l)[i])
		if other, there := p[place]; there {
			t.Fatalf("%s lies where %s does", name, other)
		}
		p[place] = name
	}
}

func takeUps(t *testing.T, p places, name string, l []api.Up) {
	t.Helper()
	take(t, p, name, l)
	for i, u := range all(l) {
		take(t, p, fmt.Sprintf("%s, row %d", name, i), u.Row)
	}
}

func TestAnswersAreTheirOwn(t *testing.T) { // the rule of memory: lists and rows, spare room too, of one answer and of several
	taken := places{} // it keeps what was told, so that no memory is told twice only because it came to be free
	for i, g := range memoryCases() {
		roomed := roomy(g)
		takeUps(t, taken, "what is handed in", roomed.l)
		for round := range 2 {
			for j, l := range tell(roomed).lists() {
				takeUps(t, taken, fmt.Sprintf("case %d, answer %d of the time %d", i, j, round), l)
			}
		}
	}
}

func TestAnswersAreWrittenOver(t *testing.T) { // the rule of memory: what is done to one list or row of an answer is seen in no other, and not in what was handed in
	for _, g := range memoryCases() {
		roomed := roomy(g)
		before, want := whole(roomed), tell(roomed).String()
		for i := range tell(roomed).lists() {
			got, other := tell(roomed), tell(roomed)
			l := got.lists()[i]
			rest := fmt.Sprint(got.lists()[1-i])
			for j := range l {
				later := fmt.Sprint(l[j+1:])
				if spoilList(l[j].Row, s("over")); fmt.Sprint(l[j+1:]) != later {
					t.Fatalf("one row is written over, and so are others: %v, %v", l, later)
				}
			}
			if spoilUps(l); fmt.Sprint(got.lists()[1-i]) != rest {
				t.Fatalf("one list is written over, and so is the other: %v, %v", got, rest)
			}
			if other.String() != want || tell(roomed).String() != want {
				t.Fatalf("one answer is written over, and so is another: %v, %v", other, want)
			}
		}
		if !reflect.DeepEqual(whole(roomed), before) {
			t.Fatalf("%+v was changed with an answer to %+v", before, whole(roomed))
		}
	}
}

func TestListsThatAreOne(t *testing.T) { // the rule of memory: changes whose rows are one memory
	one := r(5, 7)
	l := ups(up(one, 1, 0, 2), up(one[:1], 0, 0, 1), up(one, 1, 0, 2), up(one[1:], 2, 0, 1))
	for _, k := range []listed{
		{"concat", concat(), l, ups(up(r(5, 7), 1, 0, 2), up(r(5), 0, 0, 1), up(r(5, 7), 1, 0, 2), up(r(7), 2, 0, 1))},
		{"negate", negate(), l, ups(up(r(5, 7), 1, 0, -2), up(r(5), 0, 0, -1), up(r(5, 7), 1, 0, -2), up(r(7), 2, 0, -1))},
		{"filter", filter(of(api.OpLess, col(0), number(6))), l, ups(up(r(5, 7), 1, 0, 2), up(r(5), 0, 0, 1), up(r(5, 7), 1, 0, 2))},
		{"project", project(0), l, ups(up(r(5), 1, 0, 2), up(r(5), 0, 0, 1), up(r(5), 1, 0, 2), up(r(7), 2, 0, 1))},
		{"bucket", bucket(0, 2, 1), l, ups(up(r(5, 7, 4), 1, 0, 2), up(r(5, 7, 5), 1, 0, 2), up(r(5, 4), 0, 0, 1), up(r(5, 5), 0, 0, 1),
			up(r(5, 7, 4), 1, 0, 2), up(r(5, 7, 5), 1, 0, 2), up(r(7, 6), 2, 0, 1), up(r(7, 7), 2, 0, 1))},
	} {
		holdAll(t, k.name, k.node, k.l, k.want, api.OK)
		got, _ := linear.All(k.node, k.l)
		taken := places{}
		take(t, taken, "a row that is handed in", one)
		take(t, taken, "a list that is handed in", l)
		takeUps(t, taken, k.name, got)
	}
	steps := col(0)
	holdDo(t, "one expression twice", mapped(steps, steps), up(r(5), 0, 0, 1), ups(up(r(5, 5), 0, 0, 1)), api.OK)
}

func TestAnswersHangOnArgumentsAlone(t *testing.T) { // also behind other calls, and behind faults
	var first []string
	for _, g := range memoryCases() {
		first = append(first, tell(g).String())
	}
	for range 2 {
		for i, g := range slices.Backward(memoryCases()) {
			if got := tell(g).String(); got != first[i] {
				t.Errorf("once %v, then %v", first[i], got)
			}
		}
	}
}

package sheet_test

import (
	"bytes"
	"fmt"
	"reflect"
	"slices"
	"strings"
	"testing"
	"unsafe"

	"runnel/api"
	"runnel/sheet"
)

// withRoom is the list with spare room behind it, which is filled.
func withRoom[T any](l []T, spare ...T) []T {
	return slices.Clip(append(slices.Clip(slices.Clone(l)), spare...))[:len(l)]
}

// roomyNode is the node with spare room behind each of its lists.
func roomyNode(n api.Node) api.Node {
	n.Ins, n.Kinds, n.Cols = withRoom(n.Ins, 71, 72), withRoom(n.Kinds, 73, 74), withRoom(n.Cols, 75, 76)
	var exprs [][]api.Term
	for _, l := range n.Exprs {
		exprs = append(exprs, withRoom(l, api.Term{Op: 77, Int: 78, Str: "spare"}))
	}
	n.Exprs = withRoom(exprs, withRoom([]api.Term{{Op: 79}}, api.Term{Op: 80}))
	return n
}

// roomy is the plan with spare room behind each of its lists.
func roomy(p api.Plan) api.Plan {
	var nodes []api.Node
	for _, n := range p.Nodes {
		nodes = append(nodes, roomyNode(n))
	}
	p.Nodes = withRoom(nodes, roomyNode(api.Node{Kind: 81, Ins: []int{82}}), roomyNode(api.Node{}))
	p.Outs = withRoom(p.Outs, 83, 84)
	return p
}

// whole is a copy of a plan with all that lies in its lists, spare room too.
func whole(p api.Plan) api.Plan {
	p = toRoom(p)
	return clone(p)
}

// toRoom is a plan whose lists go on to the end of their room; they are the plan's own but for those of nodes and exprs.
func toRoom(p api.Plan) api.Plan {
	p.Nodes, p.Outs = slices.Clone(p.Nodes[:cap(p.Nodes)]), p.Outs[:cap(p.Outs)]
	for i := range p.Nodes {
		n := &p.Nodes[i]
		n.Ins, n.Kinds, n.Cols, n.Exprs = n.Ins[:cap(n.Ins)], n.Kinds[:cap(n.Kinds)], n.Cols[:cap(n.Cols)], slices.Clone(n.Exprs[:cap(n.Exprs)])
		for j, l := range n.Exprs {
			n.Exprs[j] = l[:cap(l)]
		}
	}
	return p
}

// spoilList writes over a list, spare room too.
func spoilList[T any](l []T, x T) {
	for i := range l[:cap(l)] {
		l[:cap(l)][i] = x
	}
}

// spoilPlan writes over all that lies in a plan's lists.
func spoilPlan(p api.Plan) {
	for _, n := range p.Nodes[:cap(p.Nodes)] {
		spoilList(n.Ins, -91)
		spoilList(n.Kinds, -92)
		spoilList(n.Cols, -93)
		for _, l := range n.Exprs[:cap(n.Exprs)] {
			spoilList(l, api.Term{Op: -94})
		}
		spoilList(n.Exprs, nil)
	}
	spoilList(p.Nodes, api.Node{Kind: -95})
	spoilList(p.Outs, -96)
}

// memoryPlans are plans that may be told, and others with an error of each sort.
func memoryPlans() []api.Plan {
	long := api.Node{Exprs: [][]api.Term{words("a"), words(strings.Repeat("a", 4097))}}
	l := []api.Plan{{}, everyKind(), {Room: 1, Outs: []int{0}, Nodes: []api.Node{{}}}, planOf(many(65, api.Node{Ins: []int{1}})...), planOf(api.Node{}, long), {Outs: rising(9, 0)}}
	x := chance(5)
	for len(l) < 30 {
		l = append(l, x.plan())
	}
	return append(l, planOf(many(64, api.Node{Ins: []int{0, 1}, Exprs: [][]api.Term{words("a", "b"), nil}})...))
}

// memoryBytes are such of plans, and others that are no plan's.
func memoryBytes() [][]byte {
	var l [][]byte
	for _, p := range memoryPlans() {
		b := askedBytes(p)
		l = append(l, b, b[:len(b)-1], append(slices.Clone(b), 0), append([]byte{81}, b[1:]...))
	}
	return l
}

func TestPlansHandedInAreLeft(t *testing.T) { // the rule of memory: neither changed nor kept, spare room included
	for i, p := range memoryPlans() {
		given, second := roomy(p), roomy(p)
		before := whole(given)
		got, e := sheet.Encode(given)
		check, same := sheet.Check(given), sheet.Same(given, second)
		if !reflect.DeepEqual(whole(given), before) || !reflect.DeepEqual(whole(second), before) {
			t.Errorf("plan %d was changed", i)
		}
		if want := askedFault(p); e != want || check != want || !same {
			t.Errorf("plan %d with spare room: %d, %d, %v", i, e, check, same)
		}
		want := slices.Clone(got)
		if spoilPlan(given); !bytes.Equal(got, want) {
			t.Errorf("plan %d: what was handed in is written over, and so is what was told", i)
		}
		if again, _ := sheet.Encode(second); !bytes.Equal(again, want) || e == api.OK && !bytes.Equal(again, askedBytes(p)) {
			t.Errorf("plan %d: told again: %s, %s", i, short(again), short(want))
		}
		if sheet.Same(given, second) && !alike(given, second) {
			t.Errorf("plan %d: the same as what was written over", i)
		}
	}
}

func TestBytesHandedInAreLeft(t *testing.T) { // the rule of memory: neither changed nor kept, spare room included
	for _, b := range memoryBytes() {
		given := withRoom(b, askedBytes(everyKind())[1:60]...)
		before := slices.Clone(given[:cap(given)])
		p, e := sheet.Decode(given)
		if !bytes.Equal(given[:cap(given)], before) {
			t.Errorf("%s were changed to %s", short(before), short(given[:cap(given)]))
		}
		want, ok := askedPlan(b)
		if ok != (e == api.OK) || !alike(p, want) {
			t.Errorf("%s with spare room: %s, %d", short(b), brief(p), e)
		}
		if spoilList(given, 0x61); !alike(p, want) {
			t.Errorf("%s are written over, and so is what was told: %s", short(b), brief(p))
		}
	}
}

func TestSpareRoomIsNotRead(t *testing.T) { // P17.2: bytes that go on behind their end are no part of them
	b := askedBytes(everyKind())
	for i := range b {
		holdNoForm(t, "a beginning, the rest as spare room", b[:i:len(b)])
	}
}

func TestListsThatAreOneIn(t *testing.T) { // the rule of memory: nodes that have one list between them
	l, steps := []int{1, 2, 3}, words("a", "b")
	n := api.Node{Kind: 4, Ins: l, Kinds: l[:2], Exprs: [][]api.Term{steps, steps, steps[:1]}, Cols: l[1:]}
	p := api.Plan{Nodes: []api.Node{n, n, n}, Outs: l, Room: 2}
	holdTold(t, "lists that are one", p, askedBytes(p))
	if !sheet.Same(p, clone(p)) || !sheet.Same(p, p) {
		t.Error("not the same")
	}
	q, _ := sheet.Decode(askedBytes(p))
	taken := places{}
	takePlan(t, taken, "what was handed in", clone(p))
	takePlan(t, taken, "what is told", q)
}

// places are where the things of lists lie, each of which may be there but once.
type places map[unsafe.Pointer]string

// takeList takes the places of a list's things, spare room too.
func takeList[T any](t *testing.T, p places, name string, l []T) {
	t.Helper()
	for i := range l[:cap(l)] {
		place := unsafe.Pointer(&l[:cap(l)][i])
		if other, there := p[place]; there {
			t.Fatalf("%s lies where %s does", name, other)
		}
		p[place] = name
	}
}

// takePlan takes the places of all that lies in a plan's lists.
func takePlan(t *testing.T, taken places, name string, p api.Plan) {
	t.Helper()
	takeList(t, taken, name+": outs", p.Outs)
	takeList(t, taken, name+": nodes", p.Nodes)
	for _, n := range p.Nodes[:cap(p.Nodes)] {
		takeList(t, taken, name+": ins", n.Ins)
		takeList(t, taken, name+": kinds", n.Kinds)
		takeList(t, taken, name+": cols", n.Cols)
		takeList(t, taken, name+": exprs", n.Exprs)
		for _, steps := range n.Exprs[:cap(n.Exprs)] {
			takeList(t, taken, name+": steps", steps)
		}
	}
}

func TestAnswersAreTheirOwn(t *testing.T) { // the rule of memory: spare room too
	taken := places{} // it keeps what was told, so that no memory is told twice only because it came to be free
	for i, p := range memoryPlans() {
		given := roomy(p)
		takePlan(t, taken, fmt.Sprint("plan ", i), given)
		for round := range 2 {
			b, _ := sheet.Encode(given)
			takeList(t, taken, fmt.Sprintf("the bytes of plan %d, answer %d", i, round), b)
			q, e := sheet.Decode(b)
			if e == api.OK {
				takePlan(t, taken, fmt.Sprintf("plan %d decoded, answer %d", i, round), q)
			}
			q, e = sheet.Decode(b)
			if e == api.OK {
				takePlan(t, taken, fmt.Sprintf("plan %d decoded again, answer %d", i, round), q)
			}
		}
	}
}

func TestBytesToldAreWrittenOver(t *testing.T) { // the rule of memory: what is done to one answer is seen in no other, and not in the plan
	for i, p := range memoryPlans() {
		if askedFault(p) != api.OK {
			continue
		}
		given := roomy(p)
		before, want := whole(given), askedBytes(p)
		got, _ := sheet.Encode(given)
		other, _ := sheet.Encode(given)
		spoilList(got, 0xee)
		got = append(got, 1, 2, 3)
		spoilList(got, 0xdd)
		if again, _ := sheet.Encode(given); !bytes.Equal(other, want) || !bytes.Equal(again, want) || !reflect.DeepEqual(whole(given), before) {
			t.Errorf("plan %d: one answer is written over, and so is another, or the plan", i)
		}
	}
}

func TestPlansToldAreWrittenOver(t *testing.T) { // the rule of memory: each list of a plan by itself, written over and appended to
	p := everyKind()
	p.Nodes = append(p.Nodes, api.Node{}, api.Node{Exprs: make([][]api.Term, 3)})
	b := askedBytes(p)
	given := slices.Clone(b)
	other, _ := sheet.Decode(given)
	for i := range listsOf(&p) {
		got, _ := sheet.Decode(given)
		changed := clone(p)
		for _, q := range []*api.Plan{&got, &changed} {
			l := listsOf(q)[i]
			l.Set(l.Slice3(0, l.Len(), l.Cap()))
			all := l.Slice(0, l.Cap())
			all.Clear()
			reflect.Append(l, fullOne(l.Type().Elem()), fullOne(l.Type().Elem()))
		}
		if !alike(got, changed) {
			t.Fatalf("list %d is written over, and so are others: %s", i, brief(got))
		}
		if again, _ := sheet.Decode(given); !alike(other, p) || !alike(again, p) || !bytes.Equal(given, b) {
			t.Fatalf("list %d is written over, and so is another answer, or the bytes", i)
		}
	}
	spoilPlan(other)
	if again, _ := sheet.Decode(given); !alike(again, p) || !bytes.Equal(given, b) {
		t.Error("a plan is written over, and so is another answer, or the bytes")
	}
}

// fullOne is a thing of that type that is not zero.
func fullOne(of reflect.Type) reflect.Value {
	v := reflect.New(of).Elem()
	switch x := v.Addr().Interface().(type) {
	case *int:
		*x = -97
	case *api.Term:
		*x = api.Term{Op: -98, Str: "x"}
	case *[]api.Term:
		*x = words("x", "y")
	case *api.Node:
		*x = api.Node{Kind: -99, Ins: []int{-97}}
	}
	return v
}

func TestAnswersHangOnArgumentsAlone(t *testing.T) { // also behind other plans, and behind faults
	tell := func() (l []string) {
		for _, p := range memoryPlans() {
			b, e := sheet.Encode(p)
			l = append(l, fmt.Sprintf("%d %d %x", sheet.Check(p), e, b))
		}
		for _, b := range memoryBytes() {
			p, e := sheet.Decode(b)
			l = append(l, fmt.Sprintf("%d %+v", e, withoutEmpty(p)))
		}
		return l
	}
	first := tell()
	for range 3 {
		for i, s := range tell() {
			if s != first[i] {
				t.Errorf("answer %d: once %.300s, then %.300s", i, first[i], s)
			}
		}
	}
}

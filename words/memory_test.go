package words_test

import (
	"bytes"
	"fmt"
	"reflect"
	"slices"
	"testing"
	"unsafe"

	"runnel/api"
	"runnel/plan"
	"runnel/words"
)

// withRoom is the list in memory of its own, with these things in the spare room behind it.
func withRoom[T any](l []T, spare ...T) []T {
	return slices.Clip(append(slices.Clip(slices.Clone(l)), spare...))[:len(l)]
}

// roomyNode is the node with spare room behind each of its lists.
func roomyNode(n api.Node) api.Node {
	n.Ins, n.Kinds, n.Cols = withRoom(n.Ins, 0, 72), withRoom(n.Kinds, 1, 74), withRoom(n.Cols, 0, 76)
	var exprs [][]api.Term
	for _, l := range n.Exprs {
		exprs = append(exprs, withRoom(l, number(1), api.Term{Op: 77, Int: 78, Str: "spare"}))
	}
	n.Exprs = withRoom(exprs, withRoom(of(number(79)), op(80)))
	return n
}

// roomy is the plan with spare room behind each of its lists.
func roomy(p api.Plan) api.Plan {
	var nodes []api.Node
	for _, n := range p.Nodes {
		nodes = append(nodes, roomyNode(n))
	}
	p.Nodes = withRoom(nodes, roomyNode(input(num)), roomyNode(api.Node{Kind: 81}))
	p.Outs = withRoom(p.Outs, 0, 84)
	return p
}

// whole is a copy of a plan with all that lies in its lists, spare room too.
func whole(p api.Plan) api.Plan {
	p.Nodes, p.Outs = slices.Clone(p.Nodes[:cap(p.Nodes)]), p.Outs[:cap(p.Outs)]
	for i := range p.Nodes {
		n := &p.Nodes[i]
		n.Ins, n.Kinds, n.Cols, n.Exprs = n.Ins[:cap(n.Ins)], n.Kinds[:cap(n.Kinds)], n.Cols[:cap(n.Cols)], slices.Clone(n.Exprs[:cap(n.Exprs)])
		for j, l := range n.Exprs {
			n.Exprs[j] = l[:cap(l)]
		}
	}
	return clone(p)
}

// spoilList writes over a list, spare room too.
func spoilList[T any](l []T, x T) {
	for i := range l[:cap(l)] {
		l[:cap(l)][i] = x
	}
}

// spoilPlan writes over all that lies in a plan's lists.
func spoilPlan(p api.Plan) {
	for _, n := range p.Nodes[:cap(p.Nodes)] {
		spoilList(n.Ins, -91)
		spoilList(n.Kinds, -92)
		spoilList(n.Cols, -93)
		for _, l := range n.Exprs[:cap(n.Exprs)] {
			spoilList(l, api.Term{Op: -94})
		}
		spoilList(n.Exprs, nil)
	}
	spoilList(p.Nodes, api.Node{Kind: -95})
	spoilList(p.Outs, -96)
}

// memoryPlans are plans that may be, and others that plan.Check refuses.
func memoryPlans() []api.Plan {
	l := []api.Plan{everyKind(), filled(everyKind()), planOf(input()), planOf(input(num), mapped(0, many(16, of(col(0), number(2)))...)), planOf(input(num), mapped(0, many(16, of(col(0)))...)), planOf(many(64, input(num))...)}
	names := []string{"nothing at all", "65 nodes", "9 outs", "a map of no step", "its own in", "a filter of two", "a join's key", "a map of a text too long"}
	for _, name := range names {
		l = append(l, wrongPlans()[name].p)
	}
	for seed := range 20 {
		l = append(l, drawPlan(newChance(seed), 12))
	}
	return l
}

// memoryTexts are such of plans, and others that are none.
func memoryTexts() []string {
	l := []string{"", "room 5\n", "room 5\nmap 0 [ 'a%20b cat", "room 5\nconcat 1 2 3\nproject 1 2 3\nmap 0 [ 1 ] [ 2 ] [ 'x ]\nout 0\nout 1\n"}
	for i, p := range memoryPlans() {
		if e, _ := plan.Check(p); e == api.OK {
			s := askedText(p)
			l = append(l, s, s[:len(s)-1], spoilt(newChance(i), s))
		}
	}
	for seed := range 10 {
		l = append(l, askedText(drawAnyPlan(newChance(seed))))
	}
	return l
}

func TestPlansHandedInAreLeft(t *testing.T) { // the rule of memory: neither changed nor kept, spare room included
	for i, p := range memoryPlans() {
		given, second := roomy(p), roomy(p)
		before := whole(given)
		want, fault := words.Print(clone(p))
		got, e := words.Print(given)
		if e != fault || !bytes.Equal(got, want) {
			t.Errorf("plan %d with spare room: %s, %d", i, brief(got), int(e))
		}
		if !reflect.DeepEqual(whole(given), before) {
			t.Errorf("plan %d was changed", i)
		}
		if spoilPlan(given); !bytes.Equal(got, want) {
			t.Errorf("plan %d: what was handed in is written over, and so is what was told", i)
		}
		if again, _ := words.Print(second); !bytes.Equal(again, want) {
			t.Errorf("plan %d: told again: %s", i, brief(again))
		}
	}
}

func TestStepsHandedInAreLeft(t *testing.T) { // the rule of memory, of Expr and Quote
	l := of(col(3), quoted("a b"), op(api.OpCat), op(77), number(-5))
	given := withRoom(l, number(1), quoted("spare"))
	before := slices.Clone(given[:cap(given)])
	got := words.Expr(given)
	if got != "c3 'a%20b cat ? -5" || !slices.Equal(given[:cap(given)], before) {
		t.Errorf("Expr = %q; %v", got, given[:cap(given)])
	}
	if spoilList(given, op(-1)); got != "c3 'a%20b cat ? -5" || words.Expr(l) != got {
		t.Errorf("Expr = %q behind what was handed in was written over", got)
	}
}

func TestTextsHandedInAreLeft(t *testing.T) { // the rule of memory: neither changed nor kept, spare room included
	for _, s := range memoryTexts() {
		want, fault, place := words.Parse([]byte(s))
		want = clone(want)
		for _, spare := range []string{"\n", " 1\n", "out 0\n", everyKindText} {
			given := withRoom([]byte(s), []byte(spare)...)
			p, e, at := words.Parse(given)
			if e != fault || at != place || !alike(p, want) {
				t.Errorf("%s with spare room: %s, %d at %d, want %d at %d", brief([]byte(s)), brief(p), int(e), at, int(fault), place)
			}
			if string(given[:cap(given)]) != s+spare {
				t.Errorf("%s were changed to %s", brief([]byte(s)), brief(given[:cap(given)]))
			}
			if spoilList(given, 'x'); !alike(p, want) {
				t.Errorf("%s are written over, and so is what was told: %s", brief([]byte(s)), brief(p))
			}
		}
	}
}

func TestListsThatAreOneIn(t *testing.T) { // the rule of memory: nodes that have one list between them
	l, steps := []int{0, 0, 0}, of(number(1), number(2), op(api.OpAdd))
	n := api.Node{Kind: api.NodeMap, Ins: l[:1], Kinds: l, Exprs: [][]api.Term{steps, steps, steps[:1]}, Cols: l[1:]}
	p := api.Plan{Nodes: []api.Node{input(l...), n, n, project(0, l...), concat(l...)}, Outs: l, Room: 5}
	b, e := words.Print(p)
	if want := "room 5\ninput int int int\nmap 0 [ 1 2 add ] [ 1 2 add ] [ 1 ]\nmap 0 [ 1 2 add ] [ 1 2 add ] [ 1 ]\nproject 0 0 0 0\nconcat 0 0 0\nout 0\nout 0\nout 0\n"; e != api.OK || string(b) != want {
		t.Errorf("Print = %s, %d", brief(b), int(e))
	}
	q, _, _ := words.Parse(b)
	if !alike(q, askedTold(p)) {
		t.Errorf("Parse = %s", brief(q))
	}
	takePlan(t, places{}, "what is told", q)
}

// places are where the things of lists lie, each of which may be there but once.
type places map[unsafe.Pointer]string

// takeList takes the places of a list's things, spare room too.
func takeList[T any](t *testing.T, p places, name string, l []T) {
	t.Helper()
	for i := range l[:cap(l)] {
		place := unsafe.Pointer(&l[:cap(l)][i])
		if other, there := p[place]; there {
			t.Fatalf("%s lies where %s does", name, other)
		}
		p[place] = name
	}
}

// takePlan takes the places of all that lies in a plan's lists.
func takePlan(t *testing.T, taken places, name string, p api.Plan) {
	t.Helper()
	takeList(t, taken, name+": outs", p.Outs)
	takeList(t, taken, name+": nodes", p.Nodes)
	for _, n := range p.Nodes[:cap(p.Nodes)] {
		takeList(t, taken, name+": ins", n.Ins)
		takeList(t, taken, name+": kinds", n.Kinds)
		takeList(t, taken, name+": cols", n.Cols)
		takeList(t, taken, name+": exprs", n.Exprs)
		for _, steps := range n.Exprs[:cap(n.Exprs)] {
			takeList(t, taken, name+": steps", steps)
		}
	}
}

func TestAnswersAreTheirOwn(t *testing.T) { // the rule of memory: spare room too
	taken := places{} // it keeps what was told, so that no memory is told twice only because it came to be free
	for i, p := range memoryPlans() {
		given := roomy(p)
		takePlan(t, taken, fmt.Sprint("plan ", i), given)
		for round := range 2 {
			b, _ := words.Print(given)
			takeList(t, taken, fmt.Sprintf("the text of plan %d, answer %d", i, round), b)
		}
	}
	for i, s := range memoryTexts() {
		given := []byte(s)
		takeList(t, taken, fmt.Sprint("text ", i), given)
		for round := range 2 {
			p, _, _ := words.Parse(given)
			takePlan(t, taken, fmt.Sprintf("the plan of text %d, answer %d", i, round), p)
		}
	}
}

func TestAnswersAreWrittenOver(t *testing.T) { // the rule of memory: what is done to one answer is seen in no other, and not in what was handed in
	for i, s := range memoryTexts() {
		given := []byte(s)
		got, _, _ := words.Parse(given)
		other, _, _ := words.Parse(given)
		want := clone(other)
		spoilPlan(got)
		again, e, _ := words.Parse(given)
		if !alike(other, want) || !alike(again, want) || string(given) != s {
			t.Errorf("text %d: a plan is written over, and so is another answer, or the text", i)
		}
		if e != api.OK {
			continue
		}
		for j := range other.Nodes { // each list by itself, appended to
			n := &other.Nodes[j]
			n.Ins, n.Kinds, n.Cols = append(n.Ins, -1, -2), append(n.Kinds, -3), append(n.Cols, -4)
			for k := range n.Exprs {
				n.Exprs[k] = append(n.Exprs[k], op(-5))
			}
			n.Exprs = append(n.Exprs, of(op(-6)))
			for k := range n.Exprs[:len(n.Exprs)-1] {
				n.Exprs[k] = n.Exprs[k][:len(n.Exprs[k])-1]
			}
			n.Ins, n.Kinds, n.Cols, n.Exprs = n.Ins[:len(n.Ins)-2], n.Kinds[:len(n.Kinds)-1], n.Cols[:len(n.Cols)-1], n.Exprs[:len(n.Exprs)-1]
		}
		if !alike(other, want) {
			t.Errorf("text %d: one list is appended to, and another one is changed", i)
		}
	}
	for i, p := range memoryPlans() {
		given := roomy(p)
		before := whole(given)
		got, e := words.Print(given)
		other, _ := words.Print(given)
		want := slices.Clone(other)
		spoilList(got, 0xee)
		if again, fault := words.Print(given); !bytes.Equal(other, want) || !bytes.Equal(again, want) || fault != e || !reflect.DeepEqual(whole(given), before) {
			t.Errorf("plan %d: a text is written over, and so is another answer, or the plan", i)
		}
	}
}

func TestAnswersHangOnArgumentsAlone(t *testing.T) { // also behind other plans and texts, and behind faults
	tell := func() (l []string) {
		for _, p := range memoryPlans() {
			b, e := words.Print(p)
			l = append(l, fmt.Sprintf("%d %q", e, b))
			for _, n := range p.Nodes {
				for _, steps := range n.Exprs {
					l = append(l, words.Expr(steps))
				}
			}
		}
		for _, s := range memoryTexts() {
			p, e, at := words.Parse([]byte(s))
			l = append(l, fmt.Sprintf("%d %d %+v", e, at, withoutEmpty(p)), words.Quote(s))
		}
		return l
	}
	first := tell()
	for range 3 {
		for i, s := range tell() {
			if s != first[i] {
				t.Errorf("answer %d: once %.300s, then %.300s", i, first[i], s)
			}
		}
	}
}

package tune_test

import (
	"fmt"
	"reflect"
	"slices"
	"strings"
	"testing"

	"runnel/api"
	"runnel/deno"
	"runnel/plan"
	"runnel/row"
	"runnel/tune"
	"runnel/zset"
)

// The chapter's words once more, done in another way than the program does: nodes are things that point at one another,
// what a kind uses is told by the names of fields, and each rule is a function of its own that is tried behind the others.

// thing is a node, with what feeds it, and what stands for it, if anything does.
type thing struct {
	api.Node
	feeds []*thing
	by    *thing
	width int // how many columns
}

// end is what stands for a thing in the end.
func (x *thing) end() *thing {
	if x.by == nil {
		return x
	}
	return x.by.end()
}

func (x *thing) is(kind int) bool { return x.Kind == kind }

// usedBy are the names of the fields that a kind uses.
func usedBy(kind int) []string {
	return strings.Fields(map[int]string{
		api.NodeInput: "Kinds", api.NodeMap: "Exprs", api.NodeFilter: "Exprs", api.NodeProject: "Cols", api.NodeBucket: "N Size Slide", api.NodeArrange: "Key",
		api.NodeCount: "Key", api.NodeSum: "Key N", api.NodeMin: "Key", api.NodeMax: "Key", api.NodeTop: "Key N", api.NodeJoin: "Key",
	}[kind] + " Kind Ins")
}

// askedSame is Same, field by field.
func askedSame(a, b api.Node) bool {
	a, b = withoutEmpty(planOf(a)).Nodes[0], withoutEmpty(planOf(b)).Nodes[0]
	for _, name := range append(usedBy(a.Kind), usedBy(b.Kind)...) {
		if !reflect.DeepEqual(reflect.ValueOf(a).FieldByName(name).Interface(), reflect.ValueOf(b).FieldByName(name).Interface()) {
			return false
		}
	}
	return true
}

// askedFuse is Fuse: each expression is written out whole, then asked how long and how high it is.
func askedFuse(l, m [][]api.Term) (fused [][]api.Term, ok bool) {
	for _, upper := range m {
		var steps []api.Term
		for _, step := range upper {
			if step.Op != api.OpCol {
				steps = append(steps, step)
			} else if uint(step.Int) < uint(len(l)) {
				steps = slices.Concat(steps, l[step.Int])
			} else {
				return nil, false
			}
		}
		if len(steps) > 64 || len(askedStack(steps)) > 16 {
			return nil, false
		}
		fused = append(fused, steps)
	}
	return fused, true
}

// askedStack are the places of a stack that were used.
func askedStack(steps []api.Term) map[int]bool {
	takes := []int{0, 0, 0, 2, 2, 2, 2, 2, 1, 2, 2, 1, 2, 2, 3, 1, 2, 2, 2}
	used, next := map[int]bool{}, 0
	for _, step := range steps {
		if step.Op < 0 || step.Op > 18 {
			continue
		}
		for range takes[step.Op] {
			if next > 0 {
				next--
			}
		}
		used[next] = true
		next++
	}
	return used
}

// rule tells what stands for a thing, if it does so; others stand ahead of it.
type rule func(x *thing, ahead []*thing) *thing

func fedBy(kind int) rule {
	return func(x *thing, _ []*thing) *thing {
		if x.is(kind) && x.feeds[0].is(kind) {
			return x.feeds[0]
		}
		return nil
	}
}

func negatedTwice(x *thing, ahead []*thing) *thing {
	if inner := fedBy(api.NodeNegate)(x, ahead); inner != nil {
		return inner.feeds[0]
	}
	return nil
}

func oneAlone(x *thing, _ []*thing) *thing {
	if x.is(api.NodeConcat) && len(x.feeds) == 1 {
		return x.feeds[0]
	}
	return nil
}

func letsAllThrough(x *thing, _ []*thing) *thing {
	if x.is(api.NodeFilter) && len(x.Exprs[0]) == 1 && x.Exprs[0][0].Op == api.OpInt && x.Exprs[0][0].Int != 0 {
		return x.feeds[0]
	}
	return nil
}

func allInOrder(x *thing, _ []*thing) *thing {
	if x.is(api.NodeProject) && slices.Equal(x.Cols, upTo(x.feeds[0].width)) {
		return x.feeds[0]
	}
	return nil
}

func sameAhead(x *thing, ahead []*thing) *thing {
	for _, y := range ahead {
		a, b := x.Node, y.Node
		a.Ins, b.Ins = nil, nil
		if !x.is(api.NodeInput) && y.by == nil && slices.Equal(x.feeds, y.feeds) && askedSame(a, b) {
			return y
		}
	}
	return nil
}

func rules() []rule {
	return []rule{negatedTwice, oneAlone, fedBy(api.NodeConsolidate), fedBy(api.NodeDistinct), letsAllThrough, allInOrder, sameAhead}
}

// fedOtherwise lets a thing be fed by what feeds the one of its kind that feeds it.
func fedOtherwise(x *thing) bool {
	switch {
	case x.is(api.NodeProject) && x.feeds[0].is(api.NodeProject):
		var cols []int
		for _, c := range x.Cols {
			cols = append(cols, x.feeds[0].Cols[c])
		}
		x.Cols, x.feeds = cols, x.feeds[0].feeds
		return true
	case x.is(api.NodeMap) && x.feeds[0].is(api.NodeMap):
		l, ok := askedFuse(x.feeds[0].Exprs, x.Exprs)
		if ok {
			x.Exprs, x.feeds = l, x.feeds[0].feeds
		}
		return ok
	case x.is(api.NodeConcat):
		for i, y := range x.feeds {
			if y.is(api.NodeConcat) && len(x.feeds)+len(y.feeds) <= 9 {
				x.feeds = slices.Replace(slices.Clone(x.feeds), i, i+1, y.feeds...)
				fedOtherwise(x)
				return true
			}
		}
	}
	return false
}

// askedTune is Tune of a plan that may be.
func askedTune(p api.Plan) (q api.Plan, at []int) {
	things := thingsOf(p)
	order, _ := plan.Order(p)
	for changed := true; changed; {
		changed = false
		var ahead []*thing
		for _, i := range order {
			x := things[i]
			for j, y := range x.feeds {
				x.feeds[j] = y.end()
			}
			for _, r := range rules() {
				if x.by == nil {
					x.by = r(x, ahead)
					changed = changed || x.by != nil
				}
			}
			if x.by == nil && fedOtherwise(x) {
				x.feeds = slices.Clone(x.feeds)
				changed = true
			}
			ahead = append(ahead, x)
		}
	}
	return askedPlan(p, things)
}

func thingsOf(p api.Plan) []*thing {
	kinds, _ := plan.Kinds(p)
	things := make([]*thing, len(p.Nodes))
	for i, n := range clone(p).Nodes {
		things[i] = &thing{Node: n, width: len(kinds[i])}
	}
	for i, n := range p.Nodes {
		for _, in := range n.Ins {
			things[i].feeds = append(things[i].feeds, things[in])
		}
	}
	return things
}

// askedPlan is the plan of what is left, and where each thing has gone.
func askedPlan(p api.Plan, things []*thing) (q api.Plan, at []int) {
	needed := map[*thing]bool{}
	var need func(x *thing)
	need = func(x *thing) {
		if !needed[x] {
			needed[x] = true
			for _, y := range x.feeds {
				need(y)
			}
		}
	}
	for _, x := range things {
		if x.is(api.NodeInput) || x.is(api.NodeArrange) {
			need(x.end())
		}
	}
	for _, out := range p.Outs {
		need(things[out].end())
	}
	left := slices.DeleteFunc(slices.Clone(things), func(x *thing) bool { return !needed[x] })
	for _, x := range left {
		x.Ins = nil
		for _, y := range x.feeds {
			x.Ins = append(x.Ins, slices.Index(left, y))
		}
		q.Nodes = append(q.Nodes, x.Node)
	}
	for _, x := range things {
		at = append(at, slices.Index(left, x.end()))
	}
	for _, out := range p.Outs {
		q.Outs = append(q.Outs, slices.Index(left, things[out].end()))
	}
	q.Room = p.Room
	return q, at
}

// holdAll holds what is told of a plan that may be against the model, and against all that follows.
func holdAll(t *testing.T, name string, p api.Plan) {
	t.Helper()
	q, at, e := tune.Tune(clone(p))
	want, wantAt := askedTune(p)
	if e != api.OK || !alike(q, want) || !slices.Equal(at, wantAt) {
		t.Fatalf("%s: Tune(%s) = %s, %v, %d, want %s, %v", name, brief(p), brief(q), at, int(e), brief(want), wantAt)
	}
	holdFollows(t, name, p, q, at)
	holdLeft(t, name, q)
	again, stays, e := tune.Tune(clone(q))
	if e != api.OK || !alike(again, q) || !slices.Equal(stays, upTo(len(q.Nodes))) {
		t.Fatalf("%s: Tune(%s) = %s, %v, %d: it has been tuned", name, brief(q), brief(again), stays, int(e))
	}
	for seed := range 2 {
		holdMeaning(t, name, p, q, at, drawInputs(newChance(seed), p))
	}
}

// holdFollows holds a tuned plan against P31.3's words, and those of P31.1 on what stays.
func holdFollows(t *testing.T, name string, p, q api.Plan, at []int) {
	t.Helper()
	if e, place := plan.Check(q); e != api.OK {
		t.Fatalf("%s: %s of %s may not be: %d at %d", name, brief(q), brief(p), int(e), place)
	}
	if len(q.Nodes) > len(p.Nodes) || q.Room != p.Room || len(q.Outs) != len(p.Outs) || len(at) != len(p.Nodes) {
		t.Fatalf("%s: %s, %v of %s", name, brief(q), at, brief(p))
	}
	var ins []int
	for _, in := range plan.Inputs(p) {
		ins = append(ins, at[in])
		if !tune.Same(p.Nodes[in], q.Nodes[at[in]]) {
			t.Fatalf("%s: the input %d is another one in %s", name, in, brief(q))
		}
	}
	if !slices.Equal(ins, plan.Inputs(q)) {
		t.Fatalf("%s: the inputs of %s have gone to %v in %s", name, brief(p), ins, brief(q))
	}
	for i, out := range p.Outs {
		if at[out] != q.Outs[i] {
			t.Fatalf("%s: out %d of %s has gone to %d, not to %d", name, i, brief(p), q.Outs[i], at[out])
		}
	}
	kinds, _ := plan.Kinds(p)
	told, _ := plan.Kinds(q)
	stood := map[int]bool{}
	for i, place := range at {
		if place < -1 || place >= len(q.Nodes) || place >= 0 && !slices.Equal(kinds[i], told[place]) {
			t.Fatalf("%s: node %d of %s has gone to %d of %s", name, i, brief(p), place, brief(q))
		}
		if p.Nodes[i].Kind == api.NodeArrange && (place < 0 || q.Nodes[place].Kind != api.NodeArrange || q.Nodes[place].Key != p.Nodes[i].Key) {
			t.Fatalf("%s: the arrangement %d of %s has gone to %d of %s", name, i, brief(p), place, brief(q))
		}
		stood[place] = true
	}
	for i := range q.Nodes {
		if !stood[i] {
			t.Fatalf("%s: node %d of %s stands for none of %s", name, i, brief(q), brief(p))
		}
	}
}

// holdLeft holds a tuned plan against all that may be left of nothing.
func holdLeft(t *testing.T, name string, q api.Plan) {
	t.Helper()
	kinds, _ := plan.Kinds(q)
	for i, n := range q.Nodes {
		fault := ""
		for j, m := range q.Nodes[:i] {
			if n.Kind != api.NodeInput && tune.Same(n, m) {
				fault = fmt.Sprint("is Same as ", j)
			}
		}
		for _, in := range n.Ins {
			m := q.Nodes[in]
			switch {
			case n.Kind == api.NodeNegate && m.Kind == n.Kind, n.Kind == api.NodeConsolidate && m.Kind == n.Kind, n.Kind == api.NodeDistinct && m.Kind == n.Kind:
				fault = fmt.Sprint("is fed by its like, ", in)
			case n.Kind == api.NodeProject && (m.Kind == n.Kind || slices.Equal(n.Cols, upTo(len(kinds[in])))):
				fault = "is a project that is needless"
			case n.Kind == api.NodeMap && m.Kind == n.Kind:
				if _, ok := askedFuse(m.Exprs, n.Exprs); ok {
					fault = fmt.Sprint("and the map ", in, " are one")
				}
			case n.Kind == api.NodeConcat && (len(n.Ins) == 1 || m.Kind == n.Kind && len(n.Ins)-1+len(m.Ins) <= api.MaxIns):
				fault = "is a concat that is needless"
			case n.Kind == api.NodeFilter && len(n.Exprs[0]) == 1 && n.Exprs[0][0].Op == api.OpInt && n.Exprs[0][0].Int != 0:
				fault = "is a filter that is needless"
			}
		}
		if n.Kind != api.NodeInput && n.Kind != api.NodeArrange && !slices.Contains(q.Outs, i) && len(plan.Users(q, i)) == 0 {
			fault = "leads nowhere"
		}
		if fault != "" {
			t.Fatalf("%s: node %d of %s %s", name, i, brief(q), fault)
		}
	}
}

// meant is what a node has, or that it goes wrong.
type meant struct {
	counts []api.Count
	wrong  bool
}

// meanings are those of all nodes of a plan.
func meanings(p api.Plan, inputs map[int][]api.Count) []meant {
	order, _ := plan.Order(p)
	l := make([]meant, len(p.Nodes))
	for _, i := range order {
		n := p.Nodes[i]
		if n.Kind == api.NodeInput {
			l[i].counts = inputs[i]
			continue
		}
		var ins [][]api.Count
		for _, in := range n.Ins {
			l[i].wrong = l[i].wrong || l[in].wrong
			ins = append(ins, l[in].counts)
		}
		if !l[i].wrong {
			counts, e := deno.Node(n, ins)
			l[i] = meant{counts, e != api.OK}
		}
	}
	return l
}

// sameCounts: of the same rows the same Diffs, where what is told stands in one order.
func sameCounts(a, b []api.Count) bool {
	return slices.EqualFunc(a, b, func(x, y api.Count) bool { return row.Same(x.Row, y.Row) && x.Diff == y.Diff })
}

// holdMeaning holds, of these inputs, what a plan's nodes mean against what those mean that stand for them, and the outs of both, as deno.Counts tells them.
func holdMeaning(t *testing.T, name string, p, q api.Plan, at []int, inputs [][]api.Count) {
	t.Helper()
	ofP, ofQ := map[int][]api.Count{}, map[int][]api.Count{}
	for i, in := range plan.Inputs(p) {
		ofP[in], _ = zset.Less(inputs[i], nil)
		ofQ[at[in]] = ofP[in]
	}
	of, into := meanings(p, ofP), meanings(q, ofQ)
	for i, place := range at {
		if place >= 0 && !of[i].wrong && !into[place].wrong && !sameCounts(of[i].counts, into[place].counts) {
			t.Fatalf("%s: node %d of %s has %s, but %d of %s has %s", name, i, brief(p), brief(of[i].counts), place, brief(q), brief(into[place].counts))
		}
	}
	outs, e := deno.Counts(p, inputs)
	tuned, fault := deno.Counts(q, inputs)
	for i := range outs {
		if e == api.OK && fault == api.OK && !sameCounts(outs[i], tuned[i]) {
			t.Fatalf("%s: out %d of %s has %s, that of %s %s", name, i, brief(p), brief(outs[i]), brief(q), brief(tuned[i]))
		}
	}
}

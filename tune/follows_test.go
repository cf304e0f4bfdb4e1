package tune_test

import (
	"fmt"
	"testing"

	"runnel/api"
	"runnel/expr"
	"runnel/plan"
	"runnel/row"
	"runnel/tune"
)

func TestDrawnPlans(t *testing.T) { // P31.1, P31.3: held against the model, what follows, and what deno tells of both plans
	seen, shorter, right := map[int]int{}, 0, 0
	for seed := range 3000 {
		x := newChance(seed)
		p := drawPlan(x, 1+x.below(anyOf(x, 4, 12, 30)))
		name := fmt.Sprint("plan ", seed)
		holdAll(t, name, p)
		q, at, _ := tune.Tune(p)
		for range 2 {
			inputs := drawInputs(x, p)
			holdMeaning(t, name, p, q, at, inputs)
			right += goesRight(p, inputs)
		}
		if len(q.Nodes) < len(p.Nodes) {
			shorter++
		}
		for i, n := range p.Nodes {
			if at[i] != i {
				seen[n.Kind]++
			}
		}
	}
	if len(seen) != api.Nodes || shorter < 1500 || right < 4500 {
		t.Errorf("%d plans became shorter, %d went right; %v", shorter, right, seen)
	}
}

// goesRight is 1, if no node of a plan goes wrong.
func goesRight(p api.Plan, inputs [][]api.Count) int {
	of := map[int][]api.Count{}
	for i, in := range plan.Inputs(p) {
		of[in] = inputs[i]
	}
	for _, m := range meanings(p, of) {
		if m.wrong {
			return 0
		}
	}
	return 1
}

func TestGreatDrawnPlans(t *testing.T) { // P31.1, P31.3: of up to 64 nodes
	for seed := range 150 {
		x := newChance(seed)
		holdAll(t, fmt.Sprint("plan ", seed), drawPlan(x, 40+x.below(25)))
	}
}

func TestDrawnPlansThatAreFilled(t *testing.T) { // P31.1: fields that a kind does not use make no difference
	for seed := range 300 {
		p := filled(drawPlan(newChance(seed), 10))
		if e, at := plan.Check(p); e != api.OK {
			t.Fatalf("plan %d: %d at %d", seed, int(e), at)
		}
		holdAll(t, fmt.Sprint("plan ", seed), p)
	}
}

func TestDrawnFuse(t *testing.T) { // P31.2: held against the values that expr.Eval tells of rows drawn at random
	fused, refused, values := 0, 0, 0
	for seed := range 4000 {
		x := newChance(seed)
		kinds := drawKinds(x)
		l := drawExprs(x, kinds, x.below(4))
		middle := kindsOfExprs(t, l, kinds)
		m := drawExprs(x, middle, x.below(4))
		if kindsOfExprs(t, m, middle) == nil && len(m) > 0 || middle == nil && len(l) > 0 {
			continue
		}
		want, ok := askedFuse(l, m)
		holdFused(t, fmt.Sprint("exprs ", seed), l, m, want, ok)
		if !ok {
			refused++
			continue
		}
		fused++
		got, _ := tune.Fuse(l, m)
		for range 4 {
			r := drawRow(x, kinds)
			between, e := evaluated(l, r)
			if e != api.OK {
				continue
			}
			two, e := evaluated(m, between)
			one, fault := evaluated(got, r)
			if e != fault || !row.Same(one, two) {
				t.Fatalf("exprs %d: %s of %s, one behind the other, of %v: %v, %d; as one: %v, %d", seed, brief(m), brief(l), r, two, int(e), one, int(fault))
			}
			values++
		}
	}
	if fused < 2500 || refused < 100 || values < 8000 {
		t.Errorf("%d fused, %d refused, %d rows evaluated", fused, refused, values)
	}
}

// kindsOfExprs are those that expr.Type tells, or nothing where one of them may not be.
func kindsOfExprs(t *testing.T, l [][]api.Term, kinds []int) []int {
	t.Helper()
	var told []int
	for _, steps := range l {
		kind, e, _ := expr.Type(steps, kinds)
		if e == api.ErrMany {
			return nil
		}
		if e != api.OK {
			t.Fatalf("%s: %d", brief(steps), int(e))
		}
		told = append(told, kind)
	}
	return told
}

// evaluated is the row of what expressions make of a row, or the first error.
func evaluated(l [][]api.Term, r api.Row) (api.Row, api.Errno) {
	var made api.Row
	for _, steps := range l {
		v, e := expr.Eval(steps, r)
		if e != api.OK {
			return nil, e
		}
		made = append(made, v)
	}
	return made, api.OK
}

func TestDrawnFuseOfAnything(t *testing.T) { // P31.2: of any steps, whether they may be or not
	fused := 0
	for seed := range 5000 {
		x := newChance(seed)
		l, m := drawAnyExprs(x), drawAnyExprs(x)
		want, ok := askedFuse(l, m)
		holdFused(t, fmt.Sprint("exprs ", seed), l, m, want, ok)
		if ok && len(m) > 0 {
			fused++
		}
	}
	if fused < 500 {
		t.Errorf("only %d were fused", fused)
	}
}

func TestDrawnSame(t *testing.T) { // P31.2: of any nodes, whether they may be or not
	alike := 0
	for seed := range 20000 {
		x := newChance(seed)
		a := drawAnyNode(x)
		b := drawAnyNode(x)
		if x.below(2) == 0 {
			b = cloneNode(a)
			for range x.below(3) {
				changeNode(x, &b)
			}
		}
		want := askedSame(a, b)
		holdSame(t, fmt.Sprint("nodes ", seed), a, b, want)
		if want {
			alike++
		}
	}
	if alike < 3000 {
		t.Errorf("only %d were alike", alike)
	}
}

// changeNode draws one field of a node anew.
func changeNode(x source, n *api.Node) {
	m := drawAnyNode(x)
	switch x.below(9) {
	case 0:
		n.Kind = m.Kind
	case 1:
		n.Ins = m.Ins
	case 2:
		n.Kinds = m.Kinds
	case 3:
		n.Exprs = m.Exprs
	case 4:
		n.Cols = m.Cols
	case 5:
		n.Key = m.Key
	case 6:
		n.N = m.N
	case 7:
		n.Size = m.Size
	default:
		n.Slide = m.Slide
	}
}

// holdAnyPlan holds a plan that may be or not.
func holdAnyPlan(t *testing.T, name string, p api.Plan) {
	t.Helper()
	if e, _ := plan.Check(p); e != api.OK {
		holdRefused(t, name, p, e)
		return
	}
	holdAll(t, name, p)
}

func TestDrawnPlansOfAnything(t *testing.T) { // P31.1: a plan, or plan.Check's error
	for seed := range 5000 {
		holdAnyPlan(t, fmt.Sprint("plan ", seed), drawAnyPlan(newChance(seed)))
	}
	for seed := range 3000 {
		x := newChance(seed)
		p := drawPlan(x, 6)
		changeNode(x, &p.Nodes[x.below(len(p.Nodes))])
		holdAnyPlan(t, fmt.Sprint("changed plan ", seed), p)
	}
}

func FuzzPlans(f *testing.F) { // P31.1 to P31.3: bytes as what plans and expressions are drawn by
	for _, s := range []string{"", "0", "plan", "aaaaaaaaaaaaaaaaaaaaaaaaaaaaaaaaaa", "\x03\x07\x01\x02\x09\x04\x05\x06\x08\x0a\x0c\x0b\x0d"} {
		f.Add([]byte(s))
	}
	f.Fuzz(func(t *testing.T, b []byte) {
		x := &read{b}
		p := drawPlan(x, 1+x.below(24))
		holdAll(t, "a plan", p)
		holdMeaning(t, "a plan", p, p, upTo(len(p.Nodes)), drawInputs(x, p))
		q, at, _ := tune.Tune(p)
		holdMeaning(t, "a plan", p, q, at, drawInputs(x, p))
		changeNode(x, &p.Nodes[x.below(len(p.Nodes))])
		holdAnyPlan(t, "a changed plan", p)
		holdAnyPlan(t, "any plan", drawAnyPlan(x))
		l, m := drawAnyExprs(x), drawAnyExprs(x)
		want, ok := askedFuse(l, m)
		holdFused(t, "any expressions", l, m, want, ok)
		n, other := drawAnyNode(x), drawAnyNode(x)
		holdSame(t, "any nodes", n, other, askedSame(n, other))
	})
}

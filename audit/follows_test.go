package audit_test

import (
	"fmt"
	"slices"
	"testing"

	"runnel/api"
	"runnel/audit"
	"runnel/deno"
	"runnel/plan"
	"runnel/tune"
)

func TestAtRandom(t *testing.T) { // P34.1 to P34.4: drawn plans of all kinds of nodes, of one input and of several, with drawn lists
	kinds, told := make([]int, api.Nodes), 0
	for i := range 300 {
		x := chance(i)
		p := drawPlan(&x, 1+i%4, 2+x.below(8), anyKind)
		for _, n := range p.Nodes {
			kinds[n.Kind]++
		}
		l := drawLists(&x, p, 5, small(&x))
		hold(t, fmt.Sprint("plan ", i), p, l)
		has, _ := deno.Counts(p, l)
		for _, one := range has {
			told += len(one)
		}
	}
	if slices.Min(kinds) < 25 || told < 1000 {
		t.Errorf("kinds %v, %d rows", kinds, told)
	}
}

func TestTooGreatAtRandom(t *testing.T) { // P34.1 to P34.4: numbers that are too great: with all, without one row, in what is told
	errs := map[string]int{}
	for i := range 800 {
		x := chance(10000 + i)
		p := drawAdding(&x)
		if i%3 == 0 {
			p = drawPlan(&x, 1+i%4, 2+x.below(6), anyKind)
		}
		l := drawLists(&x, p, 4, greater(&x))
		if i%10 == 1 {
			p, l = great(), drawGreat(&x)
		}
		has, e := deno.Counts(p, l)
		if e == api.OK || i%8 == 0 {
			hold(t, fmt.Sprint("plan ", i), p, l)
		}
		if e != api.OK {
			errs["with all"]++
			continue
		}
		for in := range l {
			for _, one := range l[in] {
				_, e := audit.What(p, l, in, one.Row)
				_, without := deno.Counts(p, audit.Without(l, in, one.Row))
				errs[fmt.Sprintf("What %d, without %d", e, without)]++
			}
		}
		for out := range has {
			for _, of := range rowsOf(has[out]) {
				_, e := audit.Why(p, l, out, of)
				errs[fmt.Sprintf("Why %d", e)]++
			}
		}
	}
	for _, way := range []string{"with all", "What 0, without 0", "What 60, without 60", "What 60, without 0", "Why 60", "Why 0"} {
		if errs[way] < 10 {
			t.Errorf("%s: %d", way, errs[way])
		}
	}
}

// changed is a plan that differs from one at one place, if it may be; else that one.
func changed(x source, p api.Plan) api.Plan {
	q := p
	q.Nodes, q.Outs = slices.Clone(p.Nodes), slices.Clone(p.Outs)
	n := &q.Nodes[x.below(len(q.Nodes))]
	switch x.below(6) {
	case 0:
		q.Outs[x.below(len(q.Outs))] = x.below(len(q.Nodes))
	case 1:
		q.Outs[len(q.Outs)-1] = x.below(len(q.Nodes))
	case 2:
		n.Key, n.N = x.below(3), 1+x.below(3)
	case 3:
		if n.Kind >= api.NodeDistinct && n.Kind <= api.NodeTop {
			n.Kind = api.NodeDistinct + x.below(6)
		}
	case 4:
		if len(n.Ins) > 0 {
			n.Ins = slices.Clone(n.Ins)
			n.Ins[x.below(len(n.Ins))] = x.below(len(q.Nodes))
		}
	default:
		q.Room = 1 + x.below(api.MaxRoom)
	}
	return q
}

func TestAgreeAtRandom(t *testing.T) { // P34.4: of plans that differ at one place, of those that mean the same, of others
	errs := map[api.Errno]int{}
	outs := make([]int, 4)
	for i := range 1500 {
		x := chance(2000 + i)
		p := drawPlan(&x, 1+i%3, 2+x.below(7), anyKind)
		q := changed(&x, p)
		for range x.below(3) {
			q = changed(&x, q)
		}
		l := drawLists(&x, p, 5, small(&x))
		e := holdAgree(t, fmt.Sprint("plan ", i), p, q, l)
		if holdAgree(t, fmt.Sprint("the other way, plan ", i), q, p, l) != e {
			t.Fatalf("plan %d: it is told one way alone", i)
		}
		errs[e]++
		if out, _, e := audit.Agree(p, q, l); e == api.OK {
			outs[out]++
		}
	}
	if errs[api.OK] < 200 || errs[api.ErrNone] < 200 || errs[api.ErrLoop] < 10 || slices.Min(outs) < 20 {
		t.Errorf("%v; outs %v", errs, outs)
	}
}

func TestTunedAgree(t *testing.T) { // P34.4: a plan that is tuned means the same
	shorter := 0
	for i := range 300 {
		x := chance(4000 + i)
		p := drawPlan(&x, 1+i%3, 3+x.below(8), anyKind)
		q, _, e := tune.Tune(p)
		if e != api.OK {
			t.Fatalf("plan %d: error %d", i, int(e))
		}
		agrees(t, p, q, drawLists(&x, p, 6, small(&x)))
		if len(q.Nodes) < len(p.Nodes) {
			shorter++
		}
	}
	if shorter < 100 {
		t.Errorf("only %d were shorter", shorter)
	}
}

// bothSides holds that a row is in Why with just the Diff that What tells of it at that out; how often it was.
func bothSides(t *testing.T, at string, p api.Plan, l [][]api.Count) (told int) {
	t.Helper()
	what := map[string][][]api.Count{} // by list and row, where it is told
	for in := range l {
		for _, one := range rowsOf(l[in]) {
			if brought, e := audit.What(p, l, in, one); e == api.OK {
				what[fmt.Sprint(in, name(one))] = brought
			}
		}
	}
	has, _ := deno.Counts(p, l)
	for out := range has {
		rows := rowsOf(has[out])
		for _, brought := range what {
			rows = append(rows, rowsOf(brought[out])...)
		}
		for _, of := range rows {
			why, e := audit.Why(p, l, out, of)
			if e != api.OK {
				continue
			}
			for in := range l {
				for _, one := range rowsOf(l[in]) {
					brought, is := what[fmt.Sprint(in, name(one))]
					if !is {
						continue
					}
					if got, want := often(why[in], one), often(brought[out], of); got.Cmp(want) != 0 {
						t.Fatalf("%s: out %d: Why %v has %v of list %d %v times, What tells %v; of %s, %s", at, out, of, one, in, got, want, brief(p), brief(l))
					} else if got.Sign() != 0 {
						told++
					}
				}
			}
		}
	}
	return told
}

func TestBothSides(t *testing.T) { // P34.5: what Why says What says, and the other way round
	told := bothSides(t, "a shop", shop(), orders()) + bothSides(t, "great", great(), greatLists())
	for i := range 200 {
		x := chance(5000 + i)
		p := drawPlan(&x, 1+i%3, 2+x.below(7), anyKind)
		told += bothSides(t, fmt.Sprint("plan ", i), p, drawLists(&x, p, 4, small(&x)))
	}
	for i := range 200 {
		x := chance(6000 + i)
		p := drawPlan(&x, 1+i%3, 2+x.below(5), anyKind)
		told += bothSides(t, fmt.Sprint("great plan ", i), p, drawLists(&x, p, 3, greater(&x)))
	}
	if told < 2000 {
		t.Errorf("only %d", told)
	}
}

// alone is what a row of one list is, without all others.
func alone(l [][]api.Count, in int, of api.Row) [][]api.Count {
	one := make([][]api.Count, len(l))
	for _, x := range l[in] {
		if sameRow(x.Row, of) {
			one[in] = append(one[in], x)
		}
	}
	return one
}

// linearIsAlone holds that of a plan whose nodes are all linear What is what it makes of that row alone; how much it is.
func linearIsAlone(t *testing.T, at string, p api.Plan, l [][]api.Count) (told int) {
	t.Helper()
	for in := range l {
		for _, one := range rowsOf(l[in]) {
			got, e := audit.What(p, l, in, one)
			want, fault := deno.Counts(p, alone(l, in, one))
			if e == api.OK && fault == api.OK && !sameLists(got, want) {
				t.Fatalf("%s: What of %v of list %d = %s, want %s", at, one, in, brief(got), brief(want))
			}
			for _, brought := range got {
				told += len(brought)
			}
		}
	}
	return told
}

func TestLinearPlans(t *testing.T) { // P34.5: What is what the plan makes of that row alone
	isLinearKind := func(kind int) bool { return isLinear(planOf(api.Node{Kind: kind})) }
	kinds, told := make([]int, api.Nodes), 0
	for i := range 400 {
		x := chance(7000 + i)
		p := drawPlan(&x, 1+i%3, 2+x.below(8), isLinearKind)
		if !isLinear(p) {
			t.Fatalf("plan %d is not linear", i)
		}
		for _, n := range p.Nodes {
			kinds[n.Kind]++
		}
		told += linearIsAlone(t, fmt.Sprint("plan ", i), p, drawLists(&x, p, 6, small(&x)))
		linearIsAlone(t, fmt.Sprint("great plan ", i), p, drawLists(&x, p, 3, greater(&x)))
	}
	told += linearIsAlone(t, "linear ones", linears(), lists(list(c(2, 1, "a"), c(-1, 3, ""), c(1, 1, "a")), list(c(1, 5, "bb"), c(2, 2, "c"))))
	if slices.Min(kinds[:api.NodeConsolidate]) < 100 || kinds[api.NodeBucket] < 100 || told < 1500 {
		t.Errorf("kinds %v, %d rows", kinds, told)
	}
	// A plan that is not linear makes something else of a row alone.
	if got, _ := audit.What(shop(), orders(), 0, r(1, 5)); sameLists(got, many(3, got[1])) {
		t.Errorf("a shop: %v", got)
	}
}

func FuzzAudits(f *testing.F) { // P34.1 to P34.5: plans and lists that are drawn by bytes
	for i := range 12 {
		x := chance(8000 + i)
		b := make([]byte, 150+20*i)
		for j := range b {
			b[j] = byte(x.below(256))
		}
		f.Add(b)
	}
	f.Fuzz(func(t *testing.T, b []byte) {
		x := &read{b}
		p := drawPlan(x, 1+x.below(3), 1+x.below(6), anyKind)
		diffs := anyOf(x, small(x), small(x), greater(x))
		l := drawLists(x, p, 1+x.below(4), diffs)
		hold(t, "drawn by bytes", p, l)
		holdAgree(t, "drawn by bytes", p, changed(x, p), l)
		bothSides(t, "drawn by bytes", p, l)
		if isLinear(p) {
			linearIsAlone(t, "drawn by bytes", p, l)
		}
		if e, _ := plan.Check(p); e != api.OK {
			t.Fatalf("a plan that may not be: %d", int(e))
		}
	})
}

package settle_test

import (
	"reflect"
	"slices"
	"testing"
	"unsafe"

	"runnel/api"
	"runnel/flow"
	"runnel/settle"
)

// withRoom is a list in memory of its own, with these things in the spare room behind it.
func withRoom[T any](l []T, behind ...T) []T {
	all := make([]T, 0, len(l)+len(behind))
	all = append(append(all, l...), behind...)
	return all[:len(l)]
}

// everything is a list with its spare room.
func everything[T any](l []T) []T { return l[:cap(l)] }

// roomyPlan is a plan in memory of its own, with spare room behind each list, which is filled.
func roomyPlan(p api.Plan) api.Plan {
	p = copiedPlan(p)
	for i := range p.Nodes {
		one := &p.Nodes[i]
		one.Ins, one.Kinds, one.Cols = withRoom(one.Ins, 0, 1), withRoom(one.Kinds, 0, 1), withRoom(one.Cols, 0, 1)
		for j := range one.Exprs {
			one.Exprs[j] = withRoom(one.Exprs[j], api.Term{Op: api.OpNeg})
		}
		one.Exprs = withRoom(one.Exprs, number(3))
	}
	p.Nodes, p.Outs = withRoom(p.Nodes, input(num), negate(0)), withRoom(p.Outs, 0, 1)
	return p
}

// allOf is a plan with its spare room, in memory of its own.
func allOf(p api.Plan) api.Plan {
	p.Outs, p.Nodes = everything(p.Outs), slices.Clone(everything(p.Nodes))
	for i := range p.Nodes {
		one := &p.Nodes[i]
		one.Ins, one.Kinds, one.Cols, one.Exprs = everything(one.Ins), everything(one.Kinds), everything(one.Cols), slices.Clone(everything(one.Exprs))
		for j := range one.Exprs {
			one.Exprs[j] = everything(one.Exprs[j])
		}
	}
	return copiedPlan(p)
}

// spoilList writes over all of a list, spare room too.
func spoilList[T any](l []T, x T) {
	for i := range everything(l) {
		everything(l)[i] = x
	}
}

func spoilPlan(p api.Plan) {
	for _, one := range everything(p.Nodes) {
		spoilList(one.Ins, 63)
		spoilList(one.Kinds, 7)
		spoilList(one.Cols, 15)
		for _, l := range everything(one.Exprs) {
			spoilList(l, api.Term{Op: api.OpStr, Str: "over"})
		}
		spoilList(one.Exprs, nil)
	}
	spoilList(p.Nodes, api.Node{Kind: 99, Key: 99, N: 99, Size: 99, Slide: 99})
	spoilList(p.Outs, 63)
}

// memoryPlans are drawn, and some that are refused.
func memoryPlans() []api.Plan {
	l := []api.Plan{everyKind(), planOf(1, input(num)), lively().p}
	for i := range 60 {
		x := chance(11000 + i)
		l = append(l, widened(&x, drawPlan(&x, 2+x.below(10), false)))
	}
	for _, k := range wrongPlans() {
		l = append(l, k.p)
	}
	return l
}

func TestPlansAreLeft(t *testing.T) { // the rule of memory: a plan, with all its lists and their spare room, is neither changed nor kept
	for _, p := range memoryPlans() {
		for _, inserts := range []int{-1, 0, 3, high} {
			given := roomyPlan(p)
			before := allOf(given)
			sizes, e := settle.Sizes(given, inserts)
			own := slices.Clone(sizes)
			bound, fault := settle.Bound(given, inserts)
			if !reflect.DeepEqual(allOf(given), before) {
				t.Fatalf("%s: it was changed, or its spare room", brief(p))
			}
			spoilPlan(given)
			if !slices.Equal(sizes, own) || e != fault {
				t.Fatalf("%s: it is written over, and so is what was told", brief(p))
			}
			again, also := settle.Sizes(p, inserts)
			twice, _ := settle.Bound(p, inserts)
			if !slices.Equal(again, sizes) || also != e || twice != bound {
				t.Fatalf("%s: %v, %d, error %d; asked again %v, %d, error %d", brief(p), sizes, bound, int(e), again, twice, int(also))
			}
		}
	}
}

func TestSizesAreTheirOwn(t *testing.T) { // the rule of memory: no two answers lie in one place, spare room too; what is written over does not show in another one
	taken := map[unsafe.Pointer]bool{}
	var kept [][]settle.Size // so that no memory is told twice only because it came to be free
	for _, p := range memoryPlans() {
		for range 3 {
			sizes, e := settle.Sizes(p, 5)
			if e != api.OK && (len(sizes) > 0 || cap(sizes) > 0) {
				t.Fatalf("%v beside an error", sizes)
			}
			for i := range everything(sizes) {
				place := unsafe.Pointer(&everything(sizes)[i])
				if taken[place] {
					t.Fatalf("%s: it lies where another one does", brief(p))
				}
				taken[place] = true
			}
			kept = append(kept, sizes)
			if e == api.OK && !slices.Equal(sizes, sizesOf(p, 5)) {
				t.Fatalf("%s: %v", brief(p), sizes)
			}
			spoilList(sizes, settle.Size{In: -1, Turns: -2, Out: -3, Stored: -4})
		}
	}
	if len(taken) < 500 || len(kept) < 200 {
		t.Fatalf("only %d", len(taken))
	}
}

func TestTheSameTwice(t *testing.T) { // from arguments alone: flows on which the same calls were made tell the same, whatever was asked of others in between
	for i := range 40 {
		x := chance(12000 + i)
		p := drawPlan(&x, 3+x.below(7), true)
		s := draw(t, &x, "twice", p, 8)
		other := lively().flow(t)
		var flows [3]*flow.Flow
		for j := range flows {
			flows[j] = s.flow(t)
		}
		for range 6 {
			nodes, most := len(p.Nodes)-x.below(2), x.below(50)
			var told [3][3]any
			for j, f := range flows {
				n, quiet, e := settle.Settle(f, nodes, most)
				told[j] = [3]any{n, quiet, e}
				settle.Settle(other, 6, j)
				settle.Sizes(p, j)
				settle.Round(f, nodes)
			}
			if told[0] != told[1] || told[1] != told[2] {
				t.Fatalf("%s: %v", s.name, told)
			}
			for _, f := range flows {
				f.Quiet() // so that joins and folds are advanced in all of them
			}
			isSame(t, s.name, p, flows[0], flows[1])
			isSame(t, s.name, p, flows[0], flows[2])
		}
	}
}

func TestSizesHangOnNoOrder(t *testing.T) { // from arguments alone: of the same nodes in another order each has the same size, and the bound is the same
	for i := range 150 {
		x := chance(13000 + i)
		p := drawPlan(&x, 2+x.below(12), false)
		named := copiedPlan(p)
		for at := range named.Nodes {
			named.Nodes[at].Kinds = append(named.Nodes[at].Kinds, at) // a mark; of an input it is taken away again
		}
		q := mixed(&x, named)
		inserts := drawInserts(&x)
		place := make([]int, len(p.Nodes))
		for at := range q.Nodes {
			kinds := q.Nodes[at].Kinds
			place[kinds[len(kinds)-1]] = at
			q.Nodes[at].Kinds = kinds[:len(kinds)-1]
		}
		sizes, bound := isReckoned(t, "as drawn", p, inserts)
		others, also := isReckoned(t, "mixed", q, inserts)
		if bound != also {
			t.Fatalf("%s: %d, in another order %d", brief(p), bound, also)
		}
		for at, s := range sizes {
			if others[place[at]] != s {
				t.Fatalf("%s: node %d: %+v, in another order %+v", brief(p), at, s, others[place[at]])
			}
		}
	}
}

package settle_test

import (
	"fmt"
	"slices"
	"testing"

	"runnel/api"
	"runnel/flow"
	"runnel/settle"
)

func TestSizesAtRandom(t *testing.T) { // P29.1, P29.2: plans that are drawn, with each kind of node
	kinds, cutOff, not, long := make([]int, api.Nodes), 0, 0, 0
	for i := range 600 {
		x := chance(i)
		most := 2 + x.below(12)
		if i%20 == 0 {
			most = api.MaxNodes
		}
		p := widened(&x, drawPlan(&x, most, false))
		for _, n := range p.Nodes {
			kinds[n.Kind]++
		}
		if len(p.Nodes) > 50 {
			long++
		}
		for range 12 {
			inserts := drawInserts(&x)
			if _, bound := isReckoned(t, fmt.Sprint("plan ", i), p, inserts); bound == limit {
				cutOff++
			} else {
				not++
			}
		}
	}
	if slices.Min(kinds) < 150 || cutOff < 2000 || not < 1000 || long < 20 {
		t.Errorf("kinds %v, %d bounds were cut off, %d not, %d plans were long", kinds, cutOff, not, long)
	}
}

func TestSizesAreWholeAndGrow(t *testing.T) { // P29.1: with more inserts no size is less, and none is above 2^62 but an input's
	for i := range 100 {
		x := chance(500 + i)
		p := widened(&x, drawPlan(&x, 2+x.below(12), false))
		var before []settle.Size
		last := 0
		for _, inserts := range []int{0, 1, 2, 5, 100, 1 << 20, 1 << 31, 1 << 50, limit - 1, limit, high} {
			sizes, bound := isReckoned(t, fmt.Sprint("plan ", i), p, inserts)
			for at, s := range sizes {
				if p.Nodes[at].Kind != api.NodeInput && max(s.In, s.Turns, s.Out, s.Stored) > limit || min(s.In, s.Turns, s.Out, s.Stored) < 0 {
					t.Fatalf("plan %d, %d inserts: node %d: %+v", i, inserts, at, s)
				}
				if before != nil && (s.In < before[at].In || s.Turns < before[at].Turns || s.Out < before[at].Out || s.Stored < before[at].Stored) {
					t.Fatalf("plan %d, %d inserts: node %d: %+v, with fewer %+v", i, inserts, at, s, before[at])
				}
			}
			if bound < last || bound > limit {
				t.Fatalf("plan %d, %d inserts: %d, with fewer %d", i, inserts, bound, last)
			}
			before, last = sizes, bound
		}
	}
}

func TestSettleAtRandom(t *testing.T) { // P29.3: flows that are drawn, held against steps that are driven
	kinds, quiet, not, longest := make([]int, api.Nodes), 0, 0, 0
	for i := range 140 {
		x := chance(1000 + i)
		p := drawPlan(&x, 3+x.below(9), true)
		s := draw(t, &x, fmt.Sprint("plan ", i), p, 5+x.below(15))
		all, few := s.needed(t)
		if !few {
			continue
		}
		nodes := len(p.Nodes)
		mosts := []int{max(0, all-1), anyOf(&x, all+1, 1<<20)}
		if all < 500 {
			mosts = append(mosts, 0, 1, all, x.below(all+2))
		}
		for _, most := range mosts {
			n, done, e := s.settles(t, nodes, most)
			if n != min(most, all) && e == api.OK {
				t.Fatalf("%s: %d of %d, all are %d", s.name, n, most, all)
			}
			if done {
				quiet++
			} else {
				not++
			}
		}
		for range 3 {
			few := x.below(nodes)
			s.settles(t, few, x.below(3*nodes+3))
			s.settles(t, few, 70)
			s.rounds(t, few)
		}
		s.rounds(t, nodes)
		s.rounds(t, nodes+1+x.below(3))
		s.settles(t, nodes+1+x.below(3), anyOf(&x, nodes-1, nodes, nodes+1, nodes+2, 1000))
		for _, n := range p.Nodes {
			kinds[n.Kind]++
		}
		longest = max(longest, all)
	}
	if slices.Min(kinds) < 15 || quiet < 200 || not < 300 || longest < 500 {
		t.Errorf("kinds %v; %d were quiet, %d not; the longest one took %d", kinds, quiet, not, longest)
	}
}

func TestPartsAtRandom(t *testing.T) { // P29.3: Settle and Round by turns, with inserts and advances in between
	for i := range 100 {
		x := chance(2000 + i)
		p := drawPlan(&x, 3+x.below(8), true)
		s := draw(t, &x, fmt.Sprint("plan ", i), p, 8)
		more := draw(t, &x, "", p, 12).calls
		f, g := s.flow(t), s.flow(t)
		for j, c := range more {
			if a, b := c.make(f), c.make(g); a != b {
				t.Fatalf("%s: call %d: error %d, and %d", s.name, j, int(a), int(b))
			}
			nodes, most := len(p.Nodes)-x.below(2), x.below(40)
			n, quiet, e := settle.Settle(f, nodes, most)
			m, done, fault := driven(g, nodes, most)
			if n != m || quiet != done || e != fault {
				t.Fatalf("%s: call %d: %d, %v, error %d; want %d, %v, %d", s.name, j, n, quiet, int(e), m, done, int(fault))
			}
			if x.below(3) == 0 {
				n, e := settle.Round(f, nodes)
				m, fault := drivenRound(g, nodes)
				if n != m || e != fault {
					t.Fatalf("%s: call %d: Round %d, error %d; want %d, %d", s.name, j, n, int(e), m, int(fault))
				}
			}
			isSame(t, fmt.Sprintf("%s: call %d", s.name, j), p, f, g)
		}
	}
}

func TestFailuresAtRandom(t *testing.T) { // P29.3: flows that fail on the way: as many steps, and what came until then
	failed := map[api.Errno]int{}
	for i := range 140 {
		x := chance(3000 + i)
		p := drawPlan(&x, 3+x.below(9), true)
		s := draw(t, &x, fmt.Sprint("plan ", i), p, 8)
		for range 4 {
			in := anyOf(&x, ofKind(p, api.NodeInput)...)
			u := api.Up{Row: drawRow(&x, p.Nodes[in].Kinds), Time: pair(20+x.below(2), 20+x.below(2)), Diff: anyOf(&x, high, low, 1<<62, -1<<62, 1<<40)}
			for j, kind := range p.Nodes[in].Kinds {
				if kind == num && x.below(2) == 0 {
					u.Row[j].Int = anyOf(&x, low, high, 1<<62)
				}
			}
			s.calls = append(s.calls, insert(in, u))
		}
		for _, in := range ofKind(p, api.NodeInput) {
			s.calls = append(s.calls, advance(in))
		}
		all, few := s.needed(t)
		if !few {
			continue
		}
		_, _, e := s.settles(t, len(p.Nodes), all)
		failed[e]++
		for _, most := range []int{all - 1, anyOf(&x, all+1, 1<<20)} {
			s.settles(t, len(p.Nodes), max(0, most))
		}
		f := s.flow(t)
		settle.Settle(f, len(p.Nodes), high)
		hasFailed(t, s, f, e)
	}
	if failed[api.ErrOver] < 40 || failed[api.OK] < 40 {
		t.Errorf("%v", failed)
	}
}

// hasFailed holds a flow that has failed by an error against what is told then.
func hasFailed(t *testing.T, s subject, f *flow.Flow, want api.Errno) {
	t.Helper()
	if f.Failed() != want {
		t.Fatalf("%s: failed by %d, want %d", s.name, int(f.Failed()), int(want))
	}
	if want == api.OK {
		isSettled(t, s.name, s.p, f)
		return
	}
	for _, most := range []int{0, 1, 2, high} {
		if n, quiet, e := settle.Settle(f, len(s.p.Nodes), most); n != min(1, most) || quiet || most > 0 && e != want || most == 0 && e != api.OK {
			t.Fatalf("%s: %d at most: %d, %v, error %d", s.name, most, n, quiet, int(e))
		}
	}
	if n, e := settle.Round(f, len(s.p.Nodes)); n != 1 || e != want {
		t.Fatalf("%s: %d, error %d", s.name, n, int(e))
	}
}

// isQuietWithin holds a flow with all its inserts against its bound, and against what quiet means; how many steps it took.
func isQuietWithin(t *testing.T, s subject) int {
	t.Helper()
	bound, e := settle.Bound(s.p, s.inserted(t))
	if e != api.OK {
		t.Fatalf("%s: error %d", s.name, int(e))
	}
	f := s.flow(t)
	if f.Failed() != api.OK {
		return 0
	}
	n, quiet, e := settle.Settle(f, len(s.p.Nodes), bound)
	if e != api.OK {
		return n // it fails
	}
	if !quiet || n > bound {
		t.Fatalf("%s: %d of %d steps, quiet %v", s.name, n, bound, quiet)
	}
	isSettled(t, s.name, s.p, f)
	isWithin(t, s, f)
	return n
}

// isWithin holds what was handed on, and what the spines were given, against the sizes.
func isWithin(t *testing.T, s subject, f *flow.Flow) {
	t.Helper()
	sizes, _ := settle.Sizes(s.p, s.inserted(t))
	for i, at := range s.p.Outs {
		if l, _ := f.Out(i); len(l) > sizes[at].Out {
			t.Fatalf("%s: node %d handed on %d changes, more than %+v", s.name, at, len(l), sizes[at])
		}
	}
	for at := range s.p.Nodes {
		total := 0
		for _, spine := range f.Spines(at) {
			total += spine.Total()
		}
		if total > sizes[at].Stored {
			t.Fatalf("%s: the spines of node %d were given %d changes, more than %+v", s.name, at, total, sizes[at])
		}
	}
}

func TestQuietWithinTheBound(t *testing.T) { // P29.4: with inserts, advances, compactions and steps ahead of it
	kinds, steps := make([]int, api.Nodes), 0
	for i := range 400 {
		x := chance(4000 + i)
		p := drawPlan(&x, 3+x.below(9), true)
		p.Outs = nil
		for range 1 + x.below(api.MaxOuts) {
			p.Outs = append(p.Outs, x.below(len(p.Nodes)))
		}
		s := draw(t, &x, fmt.Sprint("plan ", i), p, x.below(20))
		steps += isQuietWithin(t, s)
		for _, n := range p.Nodes {
			kinds[n.Kind]++
		}
	}
	if slices.Min(kinds) < 60 || steps < 20000 {
		t.Errorf("kinds %v, %d steps", kinds, steps)
	}
}

func TestQuietWithFewInserts(t *testing.T) { // P29.4: of none, one, two, where the bound is least; what was inserted may be less than is told
	for i := range 300 {
		x := chance(5000 + i)
		p := drawPlan(&x, 2+x.below(6), true)
		s := draw(t, &x, fmt.Sprint("plan ", i), p, 1+x.below(3))
		for _, in := range ofKind(p, api.NodeInput) {
			if x.below(2) == 0 {
				s.calls = append(s.calls, advance(in))
			}
		}
		isQuietWithin(t, s)
		quiet := subjectOf("no insert", p, advance(ofKind(p, api.NodeInput)[0], pair(1, 2)))
		isQuietWithin(t, quiet)
	}
}

func TestQuietOfTimesApart(t *testing.T) { // P29.4: folds that feed joins and one another, at times of which none is LessEq to another one
	longest := 0
	for first := api.NodeDistinct; first <= api.NodeTop; first++ {
		for second := api.NodeDistinct; second <= api.NodeTop; second++ {
			x := chance(6000 + 10*first + second)
			for _, closed := range [][]api.Time{nil, {pair(9, 9)}, {pair(0, 9), pair(2, 3), pair(9, 0)}} {
				s := apart(&x, beside(first, second), 3+x.below(3), closed...)
				longest = max(longest, isQuietWithin(t, s))
				s.settles(t, len(s.p.Nodes), x.below(200))
			}
		}
	}
	for i := range 60 {
		x := chance(7000 + i)
		s := apart(&x, drawPlan(&x, 4+x.below(6), true), 3+x.below(4))
		longest = max(longest, isQuietWithin(t, s))
	}
	if longest < 1500 {
		t.Errorf("the longest one took only %d", longest)
	}
}

func TestQuietBehindMoreInserts(t *testing.T) { // P29.4: settled, then inserted again: the bound is that of all inserts, for each Settle
	for i := range 60 {
		x := chance(8000 + i)
		p := drawPlan(&x, 3+x.below(7), true)
		s := draw(t, &x, fmt.Sprint("plan ", i), p, 6)
		f, _ := flow.New(p)
		taken := 0
		for _, c := range s.calls {
			if c.make(f) == api.OK && c.do == inserts {
				taken++
			}
			bound, _ := settle.Bound(p, taken)
			n, quiet, e := settle.Settle(f, len(p.Nodes), bound)
			if e != api.OK {
				break
			}
			if !quiet || n > bound {
				t.Fatalf("%s: %d of %d steps, quiet %v", s.name, n, bound, quiet)
			}
			isSettled(t, s.name, p, f)
		}
	}
}

func FuzzSettles(f *testing.F) { // P29.1 to P29.4: plans, numbers of inserts and flows by bytes
	for i := range 40 {
		x := chance(9000 + i)
		var b []byte
		for range 80 + 10*i {
			b = append(b, byte(x.below(256)))
		}
		f.Add(b)
	}
	f.Fuzz(func(t *testing.T, b []byte) {
		x := &read{b}
		p := drawPlan(x, 3+x.below(8), true)
		isReckoned(t, "fuzzed", p, drawInserts(x))
		s := draw(t, x, "fuzzed", p, 3+x.below(12))
		isQuietWithin(t, s)
		s.settles(t, len(p.Nodes), 10*x.below(30))
		s.settles(t, x.below(len(p.Nodes)+2), x.below(100))
		s.rounds(t, x.below(len(p.Nodes)+2))
	})
}

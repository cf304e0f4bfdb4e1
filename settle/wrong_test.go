package settle_test

import (
	"fmt"
	"slices"
	"strings"
	"testing"

	"runnel/api"
	"runnel/flow"
	"runnel/plan"
	"runnel/settle"
)

// wrongPlans are such as plan.Check refuses, by the names of what is wrong, with the error.
func wrongPlans() map[string]struct {
	p    api.Plan
	want api.Errno
} {
	in, two, words := input(num), input(num, num), input(text)
	long := slices.Repeat(of(api.OpNeg, col(0)), 40)
	return map[string]struct {
		p    api.Plan
		want api.Errno
	}{
		"nothing at all":             {api.Plan{}, api.ErrArg},
		"65 nodes":                   {planOf(1, many(65, in)...), api.ErrMany},
		"9 outs":                     {outsAre(planOf(1, in), make([]int, 9)...), api.ErrMany},
		"no node":                    {api.Plan{Outs: []int{0}, Room: 1}, api.ErrArg},
		"no out":                     {outsAre(planOf(1, in)), api.ErrArg},
		"no room":                    {planOf(0, in), api.ErrArg},
		"room below 0":               {planOf(-1, in), api.ErrArg},
		"too much room":              {planOf(api.MaxRoom+1, in), api.ErrArg},
		"an out that is none":        {outsAre(planOf(1, in), 1), api.ErrRange},
		"an out below 0":             {outsAre(planOf(1, in), 0, -1), api.ErrRange},
		"no such kind":               {planOf(1, in, api.Node{Kind: api.Nodes, Ins: []int{0}}), api.ErrKind},
		"a kind below 0":             {planOf(1, in, api.Node{Kind: -1, Ins: []int{0}}), api.ErrKind},
		"an input with an in":        {planOf(1, in, api.Node{Ins: []int{0}}), api.ErrArg},
		"a map without":              {planOf(1, in, api.Node{Kind: api.NodeMap, Exprs: [][]api.Term{col(0)}}), api.ErrArg},
		"a concat without":           {planOf(1, in, concat()), api.ErrArg},
		"a concat of 9":              {planOf(1, in, concat(make([]int, 9)...)), api.ErrArg},
		"a join of one":              {planOf(1, in, api.Node{Kind: api.NodeJoin, Ins: []int{0}}), api.ErrArg},
		"a join of three":            {planOf(1, in, api.Node{Kind: api.NodeJoin, Ins: []int{0, 0, 0}}), api.ErrArg},
		"a count without":            {planOf(1, in, api.Node{Kind: api.NodeCount}), api.ErrArg},
		"a count of two":             {planOf(1, in, api.Node{Kind: api.NodeCount, Ins: []int{0, 0}}), api.ErrArg},
		"an in that is none":         {planOf(1, in, negate(2)), api.ErrRange},
		"an in below 0":              {planOf(1, in, concat(0, -1)), api.ErrRange},
		"its own in":                 {planOf(1, in, negate(1)), api.ErrLoop},
		"two that feed one another":  {planOf(1, in, concat(0, 2), negate(1)), api.ErrLoop},
		"17 kinds":                   {planOf(1, input(make([]int, 17)...)), api.ErrMany},
		"a column of no kind":        {planOf(1, input(num, 2)), api.ErrKind},
		"a map of no expression":     {planOf(1, in, mapped(0)), api.ErrArg},
		"a map of no step":           {planOf(1, in, mapped(0, nil)), api.ErrArg},
		"a map of 17":                {planOf(1, in, mapped(0, many(17, col(0))...)), api.ErrMany},
		"a map of too many steps":    {planOf(1, in, mapped(0, long)), api.ErrMany},
		"a map of no column":         {planOf(1, in, mapped(0, col(1))), api.ErrRange},
		"a map of no such step":      {planOf(1, in, mapped(0, of(api.Ops, col(0)))), api.ErrKind},
		"a map that lacks a value":   {planOf(1, in, mapped(0, of(api.OpAdd, col(0)))), api.ErrForm},
		"a map of another kind":      {planOf(1, words, mapped(0, of(api.OpNeg, col(0)))), api.ErrType},
		"a map of a text too long":   {planOf(1, in, mapped(0, []api.Term{{Op: api.OpStr, Str: strings.Repeat("x", api.MaxText+1)}})), api.ErrLong},
		"a filter of none":           {planOf(1, in, filter(0)), api.ErrArg},
		"a filter of a text":         {planOf(1, words, filter(0, col(0))), api.ErrType},
		"a project of no column":     {planOf(1, in, project(0, 0, 1)), api.ErrRange},
		"a project of 17":            {planOf(1, in, project(0, make([]int, 17)...)), api.ErrMany},
		"a concat of other kinds":    {planOf(1, in, words, concat(0, 1)), api.ErrType},
		"a bucket of no column":      {planOf(1, in, bucket(0, 1, 1, 1)), api.ErrRange},
		"a bucket of a text":         {planOf(1, words, bucket(0, 0, 1, 1)), api.ErrType},
		"a bucket without a slide":   {planOf(1, in, bucket(0, 0, 1, 0)), api.ErrArg},
		"a bucket without a size":    {planOf(1, in, bucket(0, 0, 0, 1)), api.ErrArg},
		"a bucket, slide below 0":    {planOf(1, in, bucket(0, 0, 1, -1)), api.ErrArg},
		"a bucket of 65 windows":     {planOf(1, in, bucket(0, 0, 65, 1)), api.ErrMany},
		"a bucket of 16 columns":     {planOf(1, input(make([]int, 16)...), bucket(0, 0, 1, 1)), api.ErrMany},
		"an arrangement's key":       {planOf(1, in, arrange(0, 2)), api.ErrRange},
		"a count's key":              {planOf(1, in, counts(0, -1)), api.ErrRange},
		"a count of 16 columns":      {planOf(1, input(make([]int, 16)...), counts(0, 16)), api.ErrMany},
		"a sum of a text":            {planOf(1, words, folds(api.NodeSum, 0, 0, 0)), api.ErrType},
		"a top of none":              {planOf(1, in, folds(api.NodeTop, 0, 0, 0)), api.ErrArg},
		"a join's key":               {planOf(1, in, two, joins(0, 1, 2)), api.ErrRange},
		"a join of other kinds":      {planOf(1, in, words, joins(0, 1, 1)), api.ErrType},
		"a join of 17 columns":       {planOf(1, input(make([]int, 9)...), input(make([]int, 8)...), joins(0, 1, 0)), api.ErrMany},
		"wrong behind much that may": {outsAre(planOf(1, append(everyKind().Nodes, joins(16, 0, 7))...), 16), api.ErrRange},
	}
}

func TestWrongPlans(t *testing.T) { // P29.1, P29.2: plan.Check's error, ahead of inserts below 0
	seen := map[api.Errno]int{}
	for name, k := range wrongPlans() {
		e, _ := plan.Check(k.p)
		if e != k.want {
			t.Errorf("%s: Check tells %d, want %d", name, int(e), int(k.want))
		}
		seen[k.want]++
		for _, inserts := range []int{0, 1, 7, limit, high, -1, -5, low} {
			isRefused(t, name, k.p, inserts, k.want)
		}
	}
	for _, e := range []api.Errno{api.ErrArg, api.ErrLong, api.ErrMany, api.ErrForm, api.ErrKind, api.ErrRange, api.ErrType, api.ErrLoop} {
		if seen[e] == 0 {
			t.Errorf("no plan of error %d", int(e))
		}
	}
}

func TestInsertsBelowNone(t *testing.T) { // P29.1, P29.2: ErrArg
	for name, p := range map[string]api.Plan{"every kind": everyKind(), "one": planOf(1, input(num)), "a map": planOf(1, input(num), mapped(0, col(0)))} {
		for _, inserts := range []int{-1, -2, -1 << 31, -limit, low + 1, low} {
			isRefused(t, name, p, inserts, api.ErrArg)
		}
	}
}

func TestWrongPlansAtRandom(t *testing.T) { // P29.1, P29.2: one number of a plan is another one
	refused := 0
	for i := range 1500 {
		x := chance(10000 + i)
		p := copiedPlan(drawPlan(&x, 2+x.below(8), false))
		at, to := x.below(len(p.Nodes)), x.below(20)-3
		n := &p.Nodes[at]
		switch x.below(7) {
		case 0:
			n.Kind = to
		case 1:
			n.Ins = append(n.Ins, to)
		case 2:
			n.Key = to
		case 3:
			n.Size, n.Slide = to, x.below(5)-1
		case 4:
			p.Outs[0], p.Room = to, 1+x.below(2)*api.MaxRoom
		case 5:
			n.N = to
		case 6:
			if len(n.Ins) > 0 {
				n.Ins[0] = to
			}
		}
		inserts := anyOf(&x, 0, 1, 5, -1, low, high)
		e, _ := plan.Check(p)
		switch {
		case e != api.OK:
			refused++
			isRefused(t, brief(p), p, inserts, e)
		case inserts < 0:
			isRefused(t, brief(p), p, inserts, api.ErrArg)
		default:
			isReckoned(t, "changed", p, inserts)
		}
	}
	if refused < 500 {
		t.Errorf("only %d", refused)
	}
}

func TestNilFlow(t *testing.T) { // P29.3: ErrNil, ahead of ErrArg; the step that has it counts in a Round
	for _, nodes := range []int{0, 1, 2, 64, high, -1, low} {
		for _, most := range []int{0, 1, 9, high, -1, low} {
			if n, quiet, e := settle.Settle(nil, nodes, most); n != 0 || quiet || e != api.ErrNil {
				t.Errorf("%d nodes, %d at most: %d, %v, error %d", nodes, most, n, quiet, int(e))
			}
		}
		n, e := settle.Round(nil, nodes)
		m, fault := drivenRound(nil, nodes)
		if n != m || e != fault || nodes > 0 && (n != 1 || e != api.ErrNil) || nodes <= 0 && (n != 0 || e != api.OK) {
			t.Errorf("Round of %d nodes: %d, error %d", nodes, n, int(e))
		}
	}
}

func TestNumbersBelowNone(t *testing.T) { // P29.3: ErrArg, and nothing has changed: joins and folds aren't advanced, either
	for name, s := range map[string]subject{"lively": lively(), "a pipe": pipe(), "new": subjectOf("new", everyKind()), "failed": failing()} {
		f, g := s.flow(t), s.flow(t)
		for _, k := range [][2]int{{-1, 0}, {-1, 5}, {low, high}, {0, -1}, {3, -1}, {high, low}, {-1, -1}, {low, low}, {-7, 0}} {
			if n, quiet, e := settle.Settle(f, k[0], k[1]); n != 0 || quiet || e != api.ErrArg {
				t.Errorf("%s, %d nodes, %d at most: %d, %v, error %d", name, k[0], k[1], n, quiet, int(e))
			}
		}
		isSame(t, name, s.p, f, g)
	}
}

func TestMoreNodesThanThereAre(t *testing.T) { // P29.3: the error of the step that has it, which counts; all ahead of it are done
	for _, s := range []subject{pipe(), lively()} {
		there := len(s.p.Nodes)
		for _, nodes := range []int{there + 1, there + 2, 64, 65, 1 << 40, high} {
			for _, most := range []int{there + 1, there + 2, 1000, high} {
				if n, quiet, e := s.settles(t, nodes, most); n != there+1 || quiet || e != api.ErrRange {
					t.Fatalf("%s, %d nodes, %d at most: %d, %v, error %d", s.name, nodes, most, n, quiet, int(e))
				}
			}
			for most := range there + 1 {
				if n, quiet, e := s.settles(t, nodes, most); n != most || quiet || e != api.OK {
					t.Fatalf("%s, %d nodes, %d at most: %d, %v, error %d", s.name, nodes, most, n, quiet, int(e))
				}
			}
		}
	}
	soon := subjectOf("quiet in the first round", planOf(5, input(num), negate(0), negate(0)), insert(0, up(r(1), 0, 0, 1)))
	if n, quiet, e := soon.settles(t, 9, 100); n != 3 || !quiet || e != api.OK {
		t.Fatalf("%d, %v, error %d", n, quiet, int(e))
	}
}

// failing is a flow that fails as soon as the second change has come to node 2.
func failing() subject {
	return subjectOf("failing", outsAre(planOf(5, input(num), negate(0), mapped(1, of(api.OpNeg, col(0))), arrange(2, 1)), 3, 2, 1),
		insert(0, up(r(5), 0, 0, 1)), insert(0, up(r(low), 0, 0, 1)), insert(0, up(r(7), 0, 0, 1)), advance(0, pair(1, 0)))
}

func TestFails(t *testing.T) { // P29.3: the error by which it fails, and the step that has it counts
	s := failing()
	for most := range 20 {
		n, quiet, e := s.settles(t, 4, most)
		if want := api.Errno(api.ErrOver); most < 7 && (n != most || e != api.OK) || most >= 7 && (n != 7 || e != want) || quiet {
			t.Fatalf("%d at most: %d, %v, error %d", most, n, quiet, int(e))
		}
	}
	f := s.flow(t)
	if n, e := settle.Round(f, 4); n != 4 || e != api.OK {
		t.Fatalf("%d, error %d", n, int(e))
	}
	if n, e := settle.Round(f, 4); n != 3 || e != api.ErrOver { // the last node has no step any more
		t.Fatalf("%d, error %d", n, int(e))
	}
	if l, _ := f.Out(0); len(l) != 1 {
		t.Fatalf("%d came", len(l))
	}
	hasFailed(t, s, f, api.ErrOver)
	for _, nodes := range []int{1, 2, 5, 100, high} { // that error ahead of ErrRange
		if n, quiet, e := settle.Settle(f, nodes, 10); n != 1 || quiet || e != api.ErrOver {
			t.Fatalf("%d nodes: %d, %v, error %d", nodes, n, quiet, int(e))
		}
		if n, e := settle.Round(f, nodes); n != 1 || e != api.ErrOver {
			t.Fatalf("%d nodes: %d, error %d", nodes, n, int(e))
		}
	}
	if n, quiet, e := settle.Settle(f, 0, 10); n != 0 || quiet || e != api.OK { // no step is done
		t.Fatalf("%d, %v, error %d", n, quiet, int(e))
	}
	if n, e := settle.Round(f, 0); n != 0 || e != api.OK {
		t.Fatalf("%d, error %d", n, int(e))
	}
}

func TestFailsAheadOfIt(t *testing.T) { // P29.3: by an insert, by a step; of each kind of work
	for name, s := range map[string]subject{
		"a step":       subjectOf("", failing().p, slices.Concat(failing().calls, []call{step(1, 9), step(2, 9)})...),
		"a join":       subjectOf("", planOf(9, input(num), joins(0, 0, 1)), insert(0, up(r(1), 0, 0, high)), step(1, 9)),
		"a sum":        subjectOf("", planOf(9, input(num), folds(api.NodeSum, 0, 0, 0)), insert(0, up(r(high), 0, 0, 9)), advance(0), step(1, 9)),
		"a hold":       subjectOf("", planOf(9, input(num), consolidate(0)), insert(0, up(r(1), 0, 0, high)), insert(0, up(r(1), 0, 0, high)), step(1, 9)),
		"merges":       subjectOf("", planOf(9, input(num), arrange(0, 1)), insert(0, up(r(1), 0, 0, high)), insert(0, up(r(1), 0, 0, high)), step(1, 9)),
		"no step more": subjectOf("", planOf(9, input(num), bucket(0, 0, 1, 1)), insert(0, up(r(high), 0, 0, 1)), step(1, 1)),
	} {
		f := s.flow(t)
		if f.Failed() != api.ErrOver {
			t.Fatalf("%s: error %d", name, int(f.Failed()))
		}
		hasFailed(t, s, f, api.ErrOver)
		g := s.flow(t)
		isSame(t, name, s.p, f, g)
		s.calls = s.calls[:len(s.calls)-1]
		if n, quiet, e := s.settles(t, len(s.p.Nodes), 100); quiet || e != api.ErrOver {
			t.Fatalf("%s: %d, %v, error %d", name, n, quiet, int(e))
		}
	}
}

func TestAnOutThatIsFull(t *testing.T) { // P29.3: ErrMany in a step, behind many others
	s := subjectOf("full", planOf(api.MaxRoom, input(num), bucket(0, 0, 64, 1)))
	for i := range api.MaxLog/64 + 1 {
		s.calls = append(s.calls, insert(0, up(r(i), 0, 0, 1)))
	}
	f := s.flow(t)
	if n, quiet, e := settle.Settle(f, 2, high); n != 2*(api.MaxLog/64+1) || quiet || e != api.ErrMany || f.Failed() != api.ErrMany {
		t.Fatalf("%d, %v, error %d", n, quiet, int(e))
	}
	s.calls = s.calls[1:]
	f = s.flow(t)
	if n, quiet, e := settle.Settle(f, 2, high); n != 2*(api.MaxLog/64) || !quiet || e != api.OK {
		t.Fatalf("%d, %v, error %d", n, quiet, int(e))
	}
}

func TestAllArguments(t *testing.T) { // every call ends, and none panics: whatever the numbers are, of flows that are quiet, that are not, that have failed
	failed := subjectOf("failed", failing().p, slices.Concat(failing().calls, []call{step(1, 9), step(2, 9)})...)
	for _, s := range []subject{subjectOf("new", everyKind()), pipe(), lively(), failing(), failed, emptied()[0], emptied()[1], emptied()[2]} {
		there := len(s.p.Nodes)
		numbers := []int{low, low + 1, -1 << 32, -1, 0, 1, 2, there - 1, there, there + 1, 64, 65, 1 << 32, limit, high - 1, high}
		for _, nodes := range numbers {
			for _, most := range numbers {
				f := s.flow(t)
				n, quiet, e := settle.Settle(f, nodes, most)
				name := fmt.Sprintf("%s, %d nodes, %d at most: %d, %v, error %d", s.name, nodes, most, n, quiet, int(e))
				switch {
				case nodes < 0 || most < 0:
					if n != 0 || quiet || e != api.ErrArg {
						t.Fatal(name)
					}
				case n < 0 || n > most || quiet && e != api.OK || e == api.OK && quiet != f.Quiet():
					t.Fatal(name)
				case !quiet && e == api.OK && n != most && nodes > 0:
					t.Fatal(name)
				case nodes == 0 && n != 0:
					t.Fatal(name)
				}
			}
			if n, e := settle.Round(s.flow(t), nodes); n < 0 || n > there+1 || e == api.OK && n != max(0, nodes) {
				t.Fatalf("%s, Round of %d nodes: %d, error %d", s.name, nodes, n, int(e))
			}
		}
	}
	for _, inserts := range []int{low, -1, 0, 1, limit, high} {
		for _, p := range []api.Plan{{}, everyKind(), planOf(1), {Nodes: make([]api.Node, 5), Outs: make([]int, 5), Room: high}, {Nodes: make([]api.Node, 1000)}} {
			settle.Sizes(p, inserts)
			settle.Bound(p, inserts)
		}
	}
	settle.Round(new(flow.Flow), 3) // what it tells is open
	settle.Settle(new(flow.Flow), 3, 3)
}

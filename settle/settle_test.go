package settle_test

import (
	"fmt"
	"slices"
	"testing"

	"runnel/api"
	"runnel/flow"
	"runnel/plan"
	"runnel/settle"
)

func TestThePage(t *testing.T) { // P29.1, P29.2: the page's example
	p := planOf(1, input(num), mapped(0, col(0)))
	sizes, bound := isReckoned(t, "the page", p, 3)
	if !slices.Equal(sizes, []settle.Size{{Out: 3}, {In: 3, Turns: 3, Out: 3}}) || bound != 1292 {
		t.Fatalf("%+v, %d", sizes, bound)
	}
}

func TestEveryKindIsThere(t *testing.T) {
	seen := make([]int, api.Nodes)
	p := everyKind()
	for _, one := range p.Nodes {
		seen[one.Kind]++
	}
	if e, _ := plan.Check(p); e != api.OK || slices.Contains(seen, 0) {
		t.Fatalf("error %d, %v", int(e), seen)
	}
	for _, inserts := range []int{0, 1, 2, 3, 10, 1000, 1 << 40, limit, high} {
		isReckoned(t, "every kind", p, inserts)
	}
}

func TestSizesByHand(t *testing.T) { // P29.1: of each kind, told by hand
	in := settle.Size{Out: 5}
	same := settle.Size{In: 5, Turns: 5, Out: 5}
	looks := settle.Size{In: 5, Turns: 35, Out: 1050, Stored: 1055} // 30 looks
	for name, k := range map[string]struct {
		node api.Node
		want settle.Size
	}{
		"map":                       {mapped(0, col(1), col(0), number(3)), same},
		"filter":                    {filter(0, number(0)), same},
		"project":                   {project(0, 1, 1, 0), same},
		"project to no column":      {project(0), same},
		"concat of one":             {concat(0), same},
		"concat of one, twice":      {concat(0, 0), settle.Size{In: 10, Turns: 10, Out: 10}},
		"concat of one, 8 times":    {concat(0, 0, 0, 0, 0, 0, 0, 0), settle.Size{In: 40, Turns: 40, Out: 40}},
		"concat of two":             {concat(1, 0), settle.Size{In: 10, Turns: 10, Out: 10}},
		"concat of two, some often": {concat(1, 0, 1, 1), settle.Size{In: 20, Turns: 20, Out: 20}},
		"negate":                    {negate(0), same},
		"consolidate":               {consolidate(0), settle.Size{In: 5, Turns: 10, Out: 5}},
		"bucket, size slide":        {bucket(0, 0, 1, 1), settle.Size{In: 5, Turns: 5, Out: 10}},
		"bucket, a multiple":        {bucket(0, 1, 12, 3), settle.Size{In: 5, Turns: 5, Out: 25}},
		"bucket, a rest":            {bucket(0, 1, 14, 3), settle.Size{In: 5, Turns: 5, Out: 25}},
		"bucket, with gaps":         {bucket(0, 1, 2, 3), settle.Size{In: 5, Turns: 5, Out: 5}},
		"bucket, most windows":      {bucket(0, 1, 64, 1), settle.Size{In: 5, Turns: 5, Out: 325}},
		"bucket, most but one":      {bucket(0, 1, 127, 2), settle.Size{In: 5, Turns: 5, Out: 320}},
		"bucket, greatest":          {bucket(0, 1, api.MaxSpan, api.MaxSpan), settle.Size{In: 5, Turns: 5, Out: 10}},
		"bucket, greatest slide":    {bucket(0, 1, 1, api.MaxSpan), settle.Size{In: 5, Turns: 5, Out: 5}},
		"bucket, greatest size":     {bucket(0, 1, api.MaxSpan, api.MaxSpan/64), settle.Size{In: 5, Turns: 5, Out: 325}},
		"arrange":                   {arrange(0, 1), settle.Size{In: 5, Turns: 5, Out: 5, Stored: 5}},
		"join":                      {joins(0, 1, 1), settle.Size{In: 10, Turns: 35, Out: 25, Stored: 10}},
		"join with itself":          {joins(1, 1, 2), settle.Size{In: 10, Turns: 35, Out: 25, Stored: 10}},
		"distinct":                  {distinct(0), looks},
		"count":                     {counts(0, 1), looks},
		"sum":                       {folds(api.NodeSum, 0, 1, 1), looks},
		"min":                       {folds(api.NodeMin, 0, 1, 0), looks},
		"max":                       {folds(api.NodeMax, 0, 0, 0), looks},
		"top":                       {folds(api.NodeTop, 0, 2, 1000), looks}, // by what comes in alone, whatever N is
	} {
		sizes, _ := isReckoned(t, name, planOf(7, input(num, num), input(num, num), k.node), 5)
		if !slices.Equal(sizes, []settle.Size{in, in, k.want}) {
			t.Errorf("%s: %+v, want %+v", name, sizes, k.want)
		}
	}
}

func TestJoinOfUnlikeSides(t *testing.T) { // P29.1: A and B are the Out of its first and its second In
	p := planOf(7, input(num), concat(0, 0, 0), joins(1, 0, 1), joins(0, 1, 1), concat(2, 3, 1))
	sizes, _ := isReckoned(t, "unlike", p, 7)
	side := settle.Size{In: 28, Turns: 175, Out: 147, Stored: 28}
	if !slices.Equal(sizes, []settle.Size{{Out: 7}, {In: 21, Turns: 21, Out: 21}, side, side, {In: 315, Turns: 315, Out: 315}}) {
		t.Fatalf("%+v", sizes)
	}
}

func TestBoundByHand(t *testing.T) { // P29.2: N times (S, and of all nodes 64 times (Stored and 1) times S), and N
	in := input(num)
	for name, k := range map[string]struct {
		p       api.Plan
		inserts int
		want    int
	}{
		"an input alone":               {planOf(1, in), 3, 1*(2+64*2) + 1},
		"an input alone, of no insert": {planOf(1, in), 0, 131},
		"inputs alone":                 {planOf(1, in, in, in), high, 3*(2+3*64*2) + 3},
		"of no insert":                 {planOf(1, in, counts(0, 0)), 0, 2*(2+2*64*2) + 2},
		"a map":                        {planOf(1, in, mapped(0, col(0))), 10, 2*(12+2*64*12) + 2},
		"an arrangement":               {planOf(1, in, arrange(0, 1)), 10, 2*(12+64*12+64*11*12) + 2},
		"a hold":                       {planOf(1, in, consolidate(0)), 10, 2*(22+2*64*22) + 2},
		"a join":                       {planOf(1, in, joins(0, 0, 1)), 10, 2*(122+64*122+64*21*122) + 2},
		"a count":                      {planOf(1, in, counts(0, 0)), 10, 2*(122+64*122+64*(110*120+11)*122) + 2},
		"an arrangement and a join":    {planOf(1, in, arrange(0, 1), joins(0, 1, 0)), 2, 3*(12+64*12+64*3*12+64*5*12) + 3},
		"what leads to no out":         {outsAre(planOf(1, in, arrange(0, 1)), 0), 10, 2*(12+64*12+64*11*12) + 2},
		"outs that are one node":       {outsAre(planOf(9, in, arrange(0, 1)), 1, 1, 1, 0), 10, 2*(12+64*12+64*11*12) + 2},
	} {
		if _, bound := isReckoned(t, name, k.p, k.inserts); bound != k.want {
			t.Errorf("%s: %d, want %d", name, bound, k.want)
		}
	}
}

func TestNoInsert(t *testing.T) { // P29.1: nothing comes anywhere
	sizes, bound := isReckoned(t, "no insert", everyKind(), 0)
	if slices.ContainsFunc(sizes, func(s settle.Size) bool { return s != settle.Size{} }) || bound != 17*(2+17*64*2)+17 {
		t.Fatalf("%+v, %d", sizes, bound)
	}
}

func TestAnotherOrder(t *testing.T) { // P29.1: nodes that stand ahead of their Ins
	p := outsAre(planOf(3, joins(1, 3, 1), concat(2, 4, 4), arrange(4, 1), counts(5, 0), input(num), project(2, 0)), 0)
	sizes, _ := isReckoned(t, "another order", p, 1)
	want := []settle.Size{
		{In: 9, Turns: 27, Out: 18, Stored: 9}, {In: 3, Turns: 3, Out: 3}, {In: 1, Turns: 1, Out: 1, Stored: 1}, {In: 1, Turns: 3, Out: 6, Stored: 7}, {Out: 1}, {In: 1, Turns: 1, Out: 1},
	}
	if !slices.Equal(sizes, want) {
		t.Fatalf("%+v, want %+v", sizes, want)
	}
	back := planOf(1, many(64, negate(0))...)
	for at := range back.Nodes {
		back.Nodes[at].Ins = []int{at + 1}
	}
	back.Nodes[63] = input(num)
	sizes, bound := isReckoned(t, "turned round", back, 9)
	if sizes[0] != (settle.Size{In: 9, Turns: 9, Out: 9}) || bound != 64*(569+64*64*569)+64 {
		t.Fatalf("%+v, %d", sizes, bound)
	}
}

func TestCutOff(t *testing.T) { // P29.1, P29.2: just below 2^62, at it, above it; up to the limit of int
	in, size := input(num), func(in, turns, out, stored int) settle.Size {
		return settle.Size{In: in, Turns: turns, Out: out, Stored: stored}
	}
	twice, itself := planOf(1, in, concat(0, 0)), planOf(1, in, joins(0, 0, 1))
	for name, k := range map[string]struct {
		p       api.Plan
		inserts int
		want    settle.Size // of the last node
	}{
		"one, below":                 {planOf(1, in, negate(0)), limit - 1, size(limit-1, limit-1, limit-1, 0)},
		"one, at":                    {planOf(1, in, negate(0)), limit, size(limit, limit, limit, 0)},
		"one, above":                 {planOf(1, in, negate(0)), limit + 1, size(limit, limit, limit, 0)},
		"one, the greatest":          {planOf(1, in, negate(0)), high, size(limit, limit, limit, 0)},
		"two, below":                 {twice, limit/2 - 1, size(limit-2, limit-2, limit-2, 0)},
		"two, at":                    {twice, limit / 2, size(limit, limit, limit, 0)},
		"two, above":                 {twice, limit/2 + 1, size(limit, limit, limit, 0)},
		"two, as much as int has":    {twice, limit - 1, size(limit, limit, limit, 0)},
		"two, above what int has":    {twice, limit, size(limit, limit, limit, 0)},
		"two of the greatest":        {twice, high, size(limit, limit, limit, 0)},
		"eight of the greatest":      {planOf(1, in, concat(0, 0, 0, 0, 0, 0, 0, 0)), high, size(limit, limit, limit, 0)},
		"one that is less by one":    {planOf(1, in, in, concat(0, 1)), limit/2 - 1, size(limit-2, limit-2, limit-2, 0)},
		"hold, below":                {planOf(1, in, consolidate(0)), limit/2 - 1, size(limit/2-1, limit-2, limit/2-1, 0)},
		"hold, at":                   {planOf(1, in, consolidate(0)), limit / 2, size(limit/2, limit, limit/2, 0)},
		"hold, above":                {planOf(1, in, consolidate(0)), limit/2 + 1, size(limit/2+1, limit, limit/2+1, 0)},
		"hold, far above":            {planOf(1, in, consolidate(0)), limit, size(limit, limit, limit, 0)},
		"arrangement":                {planOf(1, in, arrange(0, 1)), high, size(limit, limit, limit, limit)},
		"windows, below":             {planOf(1, in, bucket(0, 0, 63, 1)), limit/64 - 1, size(limit/64-1, limit/64-1, limit-64, 0)},
		"windows, at":                {planOf(1, in, bucket(0, 0, 63, 1)), limit / 64, size(limit/64, limit/64, limit, 0)},
		"windows, above":             {planOf(1, in, bucket(0, 0, 63, 1)), limit/64 + 1, size(limit/64+1, limit/64+1, limit, 0)},
		"windows, far above":         {planOf(1, in, bucket(0, 0, 63, 1)), high, size(limit, limit, limit, 0)},
		"one window, the greatest":   {planOf(1, in, bucket(0, 0, 1, 2)), high, size(limit, limit, limit, 0)},
		"join, turns below":          {itself, 1<<31 - 1, size(1<<32-2, limit-1, limit-1<<32+1, 1<<32-2)},
		"join, at":                   {itself, 1 << 31, size(1<<32, limit, limit, 1<<32)},
		"join, above":                {itself, 1<<31 + 1, size(1<<32+2, limit, limit, 1<<32+2)},
		"join, as much as int has":   {itself, 3037000499, size(2*3037000499, limit, limit, 2*3037000499)},
		"join, above what int has":   {itself, 3037000500, size(2*3037000500, limit, limit, 2*3037000500)},
		"join, wrapped round to 0":   {itself, 1 << 32, size(1<<33, limit, limit, 1<<33)},
		"join, the greatest":         {itself, high, size(limit, limit, limit, limit)},
		"fold, turns below":          {planOf(1, in, distinct(0)), 1<<31 - 1, size(1<<31-1, limit-1, limit, limit)},
		"fold, turns at":             {planOf(1, in, distinct(0)), 1 << 31, size(1<<31, limit, limit, limit)},
		"fold, turns above":          {planOf(1, in, distinct(0)), 1<<31 + 1, size(1<<31+1, limit, limit, limit)},
		"fold, out below":            {planOf(1, in, distinct(0)), 1 << 15, size(1<<15, 1<<30+1<<16, (1<<30+1<<15)*(1<<30+1<<16), 1<<15+(1<<30+1<<15)*(1<<30+1<<16))},
		"fold, the greatest":         {planOf(1, in, distinct(0)), high, size(limit, limit, limit, limit)},
		"fold, one below what wraps": {planOf(1, in, distinct(0)), limit - 1, size(limit-1, limit, limit, limit)},
	} {
		sizes, _ := isReckoned(t, name, k.p, k.inserts)
		if got := sizes[len(sizes)-1]; got != k.want {
			t.Errorf("%s: %+v, want %+v", name, got, k.want)
		}
		if sizes[0] != (settle.Size{Out: k.inserts}) {
			t.Errorf("%s: of the input %+v", name, sizes[0])
		}
	}
}

func TestBoundCutOff(t *testing.T) { // P29.2: 258 for each turn, and 2, of [input, map of 0]
	p := planOf(1, input(num), mapped(0, col(0)))
	last := (limit-2)/258 - 2 // inserts
	for inserts, want := range map[int]int{
		last - 1: 258*(last+1) + 2, last: 258*(last+2) + 2, last + 1: limit, last + 2: limit, 1 << 60: limit, limit - 2: limit, limit - 1: limit, limit: limit, high: limit,
	} {
		if _, bound := isReckoned(t, "a map", p, inserts); bound != want {
			t.Errorf("%d inserts: %d, want %d", inserts, bound, want)
		}
	}
	if 258*(last+2)+2 >= limit {
		t.Fatal("that is not below")
	}
	// An input has no turns and stores nothing: 0 stands beside what was cut off, in sums and in products.
	p = planOf(1, input(num), arrange(0, 1), input(num), concat(0, 1, 2))
	sizes, bound := isReckoned(t, "beside 0", p, high)
	if want := (settle.Size{In: limit, Turns: limit, Out: limit}); sizes[3] != want || sizes[2] != (settle.Size{Out: high}) || bound != limit {
		t.Errorf("%+v, %d", sizes, bound)
	}
}

func TestEdgesOfCuttingOff(t *testing.T) { // P29.1, P29.2: on both sides of the inserts at which each field of each node, and the bound, comes to 2^62
	chain := planOf(1, input(num), concat(0, 0, 0), joins(0, 1, 0), counts(2, 1), consolidate(3), arrange(4, 0), bucket(5, 0, 7, 2))
	edges := 0
	for name, p := range map[string]api.Plan{"every kind": everyKind(), "a chain": chain, "a hold": planOf(1, input(num), consolidate(0)), "itself": planOf(1, input(num), joins(0, 0, 1)), "one": planOf(1, input(num))} {
		fields := []func(inserts int) int{func(inserts int) int { return boundOf(p, inserts) }}
		for at := range p.Nodes {
			fields = append(fields,
				func(inserts int) int { return sizesOf(p, inserts)[at].In }, func(inserts int) int { return sizesOf(p, inserts)[at].Turns },
				func(inserts int) int { return sizesOf(p, inserts)[at].Out }, func(inserts int) int { return sizesOf(p, inserts)[at].Stored })
		}
		for _, field := range fields {
			if field(high) < limit {
				continue
			}
			below, above := 0, high
			for above-below > 1 {
				middle := below + (above-below)/2
				if field(middle) < limit {
					below = middle
				} else {
					above = middle
				}
			}
			for inserts := max(0, below-2); inserts <= above && inserts < high-2; inserts++ {
				isReckoned(t, name, p, inserts)
			}
			isReckoned(t, name, p, above+1)
			edges++
		}
	}
	if edges < 40 {
		t.Errorf("only %d", edges)
	}
}

func TestFoldsInARow(t *testing.T) { // P29.1: sizes grow until they are cut off
	p := planOf(1, input(num))
	for kind := api.NodeDistinct; kind <= api.NodeTop; kind++ {
		p.Nodes = append(p.Nodes, fold(kind, len(p.Nodes)-1))
	}
	p = outsAre(p, 6)
	sizes, bound := isReckoned(t, "in a row", p, 1)
	cut := settle.Size{In: limit, Turns: limit, Out: limit, Stored: limit}
	third := 4066272 * 4068288
	want := []settle.Size{
		{Out: 1}, {In: 1, Turns: 3, Out: 6, Stored: 7}, {In: 6, Turns: 48, Out: 2016, Stored: 2022}, {In: 2016, Turns: 4068288, Out: third, Stored: third + 2016},
		{In: third, Turns: limit, Out: limit, Stored: limit}, cut, cut,
	}
	if !slices.Equal(sizes, want) || bound != limit {
		t.Fatalf("%+v, %d; want %+v", sizes, bound, want)
	}
	for kind := api.NodeDistinct; kind <= api.NodeTop; kind++ {
		row := []api.Node{input(num)}
		for len(row) < 9 {
			row = append(row, fold(kind, len(row)-1))
		}
		for inserts := range 6 {
			isReckoned(t, fmt.Sprint("kind ", kind), planOf(1, row...), inserts)
		}
	}
}

func TestManyNodes(t *testing.T) { // P29.1, P29.2: 64 of them
	chain := planOf(1, input(num))
	for at := range api.MaxNodes - 1 {
		chain.Nodes = append(chain.Nodes, negate(at))
	}
	sizes, bound := isReckoned(t, "a chain", outsAre(chain, 63), 2)
	if sizes[63] != (settle.Size{In: 2, Turns: 2, Out: 2}) || bound != 64*(128+64*64*128)+64 {
		t.Fatalf("%+v, %d", sizes[63], bound)
	}
	wide := planOf(1, input(num))
	for at := range api.MaxNodes - 1 {
		wide.Nodes = append(wide.Nodes, concat(at, at, at, at, at, at, at, at))
	}
	sizes, bound = isReckoned(t, "eightfold", outsAre(wide, 63), 1)
	if sizes[20].Out != 1<<60 || sizes[21].Out != limit || sizes[63] != (settle.Size{In: limit, Turns: limit, Out: limit}) || bound != limit {
		t.Fatalf("%+v, %d", sizes, bound)
	}
	lone := planOf(1, many(api.MaxNodes, input(num))...)
	sizes, bound = isReckoned(t, "inputs", lone, high)
	if sizes[63] != (settle.Size{Out: high}) || bound != 64*(2+64*64*2)+64 {
		t.Fatalf("%+v, %d", sizes, bound)
	}
}

// pipe is a flow with a queue of two changes at the first of three nodes that stand in a row behind an input.
func pipe() subject {
	return subjectOf("a pipe", outsAre(planOf(5, input(num), negate(0), negate(1), negate(2)), 3, 2, 1), insert(0, up(r(1), 0, 0, 1)), insert(0, up(r(2), 0, 0, 1)))
}

func TestRoundByHand(t *testing.T) { // P29.3: of no node, of fewer than there are, of all
	for nodes, came := range [][]int{{0, 0, 0}, {0, 0, 0}, {0, 0, 1}, {0, 1, 1}, {1, 1, 1}} {
		s := pipe()
		if n, e := s.rounds(t, nodes); n != nodes || e != api.OK {
			t.Fatalf("%d nodes: %d, error %d", nodes, n, int(e))
		}
		f := s.flow(t)
		settle.Round(f, nodes)
		for i, want := range came {
			if l, _ := f.Out(i); len(l) != want {
				t.Errorf("%d nodes: %d came to out %d, want %d", nodes, len(l), i, want)
			}
		}
	}
	f := pipe().flow(t)
	for range 2 {
		if f.Quiet() {
			t.Fatal("quiet too soon")
		}
		settle.Round(f, 4)
	}
	if l, _ := f.Out(0); len(l) != 2 || !f.Quiet() {
		t.Fatalf("%d came, quiet %v", len(l), f.Quiet())
	}
	if n, e := settle.Round(f, 4); n != 4 || e != api.OK { // it is not asked whether it is quiet
		t.Fatalf("%d, error %d", n, int(e))
	}
}

func TestRoundOfMore(t *testing.T) { // P29.3: the error of the first node that there is not, which counts, too
	for _, nodes := range []int{5, 6, 100, high - 1, high} {
		if n, e := pipe().rounds(t, nodes); n != 5 || e != api.ErrRange {
			t.Errorf("%d nodes: %d, error %d", nodes, n, int(e))
		}
	}
	for _, nodes := range []int{-1, -5, low} {
		if n, e := pipe().rounds(t, nodes); n != 0 || e != api.OK {
			t.Errorf("%d nodes: %d, error %d", nodes, n, int(e))
		}
	}
}

func TestFuelIsOne(t *testing.T) { // P29.3: one turn, not all that may be done; for merges, too
	p := outsAre(planOf(90, input(num), arrange(0, 1)), 1)
	s := subjectOf("arranged", p)
	for i := range 8 {
		s.calls = append(s.calls, insert(0, up(r(i), 0, 0, 1)))
	}
	for round := 1; round <= 8; round++ {
		if n, _, _ := s.settles(t, 2, 2*round); n != 2*round {
			t.Fatalf("round %d: %d", round, n)
		}
		f := s.flow(t)
		settle.Settle(f, 2, 2*round)
		if l, _ := f.Out(0); len(l) != round {
			t.Fatalf("round %d: %d came", round, len(l))
		}
	}
	if n, quiet, _ := s.settles(t, 2, 1000); !quiet || n != 2*16 { // eight turns, and eight changes that are merged
		t.Fatalf("%d, %v", n, quiet)
	}
}

func TestSettleByHand(t *testing.T) { // P29.3: ended by quiet, and not by the end of a round
	s := pipe()
	if n, quiet, e := s.settles(t, 4, 1000); n != 8 || !quiet || e != api.OK {
		t.Fatalf("%d, %v, error %d", n, quiet, int(e))
	}
	mixed := subjectOf("turned round", planOf(5, negate(1), negate(2), input(num)), insert(2, up(r(1), 0, 0, 1)))
	mixed.p.Outs = []int{0}
	if n, quiet, e := mixed.settles(t, 3, 1000); n != 4 || !quiet || e != api.OK { // node 1 as the second step, node 0 as the fourth one
		t.Fatalf("%d, %v, error %d", n, quiet, int(e))
	}
	f := s.flow(t)
	settle.Settle(f, 4, 1000)
	l, _ := f.Out(0)
	if !slices.EqualFunc(l, []api.Up{up(r(1), 0, 0, -1), up(r(2), 0, 0, -1)}, sameUp) {
		t.Fatalf("%v", l)
	}
	isSettled(t, s.name, s.p, f)
}

// lively is a flow with folds and a join that has much to do.
func lively() subject {
	s := subjectOf("lively", outsAre(planOf(1, input(num, num), counts(0, 1), joins(0, 1, 1), consolidate(2), arrange(3, 1), folds(api.NodeTop, 4, 1, 2)), 3, 5, 1))
	for i := range 6 {
		s.calls = append(s.calls, insert(0, up(r(i%2, i), i%3, (i*2)%5, i-2*(i/3)+1)))
	}
	s.calls = append(s.calls, advance(0, pair(1, 3), pair(2, 1)), step(1, 2), compact(4, pair(1, 1)))
	return s
}

func TestMost(t *testing.T) { // P29.3: 0, 1, one step fewer than are wanted, as many, more
	for _, s := range []subject{pipe(), lively()} {
		nodes := len(s.p.Nodes)
		all, quiet, e := driven(s.flow(t), nodes, 100000)
		if !quiet || e != api.OK || all < 8 {
			t.Fatalf("%s: %d, %v, error %d", s.name, all, quiet, int(e))
		}
		for most := range all + 10 {
			if most > 20 && most < all-5 && most%17 > 0 {
				continue
			}
			n, quiet, e := s.settles(t, nodes, most)
			if n != min(most, all) || quiet != (most >= all) || e != api.OK {
				t.Fatalf("%s: %d at most: %d, %v, error %d; all are %d", s.name, most, n, quiet, int(e), all)
			}
		}
		for _, most := range []int{limit, high - 1, high} {
			if n, quiet, e := settle.Settle(s.flow(t), nodes, most); n != all || !quiet || e != api.OK {
				t.Fatalf("%s: %d at most: %d, %v, error %d; all are %d", s.name, most, n, quiet, int(e), all)
			}
		}
	}
}

func TestQuietAtOnce(t *testing.T) { // P29.3: no step, whatever the numbers are
	for name, s := range map[string]subject{
		"new":           subjectOf("new", everyKind()),
		"an input":      subjectOf("an input", planOf(1, input(num)), insert(0, up(r(1), 0, 0, 1)), advance(0, pair(3, 3))),
		"what is held":  subjectOf("what is held", planOf(9, input(num), consolidate(0)), insert(0, up(r(1), 0, 0, 1)), step(1, 1)),
		"what is to do": subjectOf("what is to do", planOf(9, input(num), counts(0, 0)), insert(0, up(r(1), 0, 0, 1)), step(1, 9)),
	} {
		for _, nodes := range []int{0, 1, len(s.p.Nodes), len(s.p.Nodes) + 1, high} {
			for _, most := range []int{0, 1, 2, 1000, high} {
				if n, quiet, e := s.settles(t, nodes, most); n != 0 || !quiet || e != api.OK {
					t.Errorf("%s, %d nodes, %d at most: %d, %v, error %d", name, nodes, most, n, quiet, int(e))
				}
			}
		}
	}
}

func TestQuietIsAskedInTheEnd(t *testing.T) { // P29.3: also where no step is done; by that joins and folds are advanced
	s := subjectOf("advanced", planOf(1, input(num), counts(0, 0), joins(0, 1, 1)), insert(0, up(r(1), 1, 0, 1)), advance(0, pair(1, 0)))
	for most, since := range [][]api.Time{{pair(1, 0)}, {pair(1, 0)}, {pair(1, 0)}, {pair(1, 0)}} {
		f := s.flow(t)
		if got := f.Spines(1)[0].Since(); !slices.Equal(got, times(pair(0, 0))) {
			t.Fatalf("ahead of it: %v", got)
		}
		settle.Settle(f, 3, most)
		for at := 1; at < 3; at++ {
			for _, spine := range f.Spines(at) {
				if got := spine.Since(); !slices.Equal(got, since) {
					t.Errorf("%d steps at most: node %d: %v, want %v", most, at, got, since)
				}
			}
		}
		s.settles(t, 3, most)
	}
}

func TestFewerNodes(t *testing.T) { // P29.3: the flow is not quiet in the end: as many steps as may be
	for _, s := range []subject{pipe(), lively()} {
		for nodes := 1; nodes < len(s.p.Nodes); nodes++ {
			for _, most := range []int{0, 1, 2, 3, 4, 5, 7, 50, 51, 52, 53, 54, 55, 400} {
				if n, quiet, e := s.settles(t, nodes, most); n != most || quiet || e != api.OK {
					t.Fatalf("%s, %d nodes: %d, %v, error %d", s.name, nodes, n, quiet, int(e))
				}
			}
			for _, most := range []int{401, 1 << 31, 1 << 40, high - 1, high} {
				s.stands(t, nodes, 400, most)
			}
		}
	}
}

func TestFewerNodesThatAreEnough(t *testing.T) { // P29.3: those behind have nothing to do
	s := subjectOf("enough", planOf(5, input(num), negate(0), input(num), negate(2)), insert(0, up(r(1), 0, 0, 1)))
	for nodes := 2; nodes <= 4; nodes++ {
		if n, quiet, e := s.settles(t, nodes, 100); n != 2 || !quiet || e != api.OK {
			t.Fatalf("%d nodes: %d, %v, error %d", nodes, n, quiet, int(e))
		}
	}
}

func TestNoNode(t *testing.T) { // P29.3: there is no next one: no step, whether it is quiet or not
	for _, s := range []subject{pipe(), lively()} {
		for _, most := range []int{0, 1, 1000, high} {
			if n, quiet, e := s.settles(t, 0, most); n != 0 || quiet || e != api.OK {
				t.Fatalf("%s: %d, %v, error %d", s.name, n, quiet, int(e))
			}
		}
	}
}

func TestByParts(t *testing.T) { // P29.3: each Settle goes from node 0 on
	for _, s := range []subject{pipe(), lively()} {
		nodes := len(s.p.Nodes)
		for part := 1; part < 3*nodes; part++ {
			f, g := s.flow(t), s.flow(t)
			parts := 0
			for range 200 {
				n, quiet, e := settle.Settle(f, nodes, part)
				m, done, fault := driven(g, nodes, part)
				if n != m || quiet != done || e != fault {
					t.Fatalf("%s, parts of %d: %d, %v, error %d; want %d, %v, %d", s.name, part, n, quiet, int(e), m, done, int(fault))
				}
				isSame(t, s.name, s.p, f, g)
				if parts++; quiet {
					break
				}
			}
			if part >= nodes && !f.Quiet() { // with fewer the last nodes never have a turn
				t.Fatalf("%s, parts of %d: not quiet behind %d parts", s.name, part, parts)
			}
		}
	}
}

// emptied are flows in which the last work takes no fuel: a batch of no change whose times come to be others.
func emptied() []subject {
	both := []call{insert(0, up(r(5), 0, 0, 1)), insert(0, up(r(5), 0, 0, -1))}
	in := input(num)
	return []subject{
		subjectOf("an empty batch", planOf(9, in, arrange(0, 1)), slices.Concat(both, []call{step(1, 2), step(1, 9), compact(1, pair(3, 3))})...),
		subjectOf("an empty batch, two nodes behind it", outsAre(planOf(9, in, arrange(0, 1), negate(0), negate(0)), 3), slices.Concat(both, []call{step(1, 2), step(1, 9), step(2, 9), step(3, 9), compact(1, pair(3, 3))})...),
		subjectOf("an empty side", planOf(9, in, in, joins(0, 1, 1)), slices.Concat(both, []call{step(2, 2), step(2, 9), advance(1, pair(3, 3))})...),
	}
}

func TestWorkThatTakesNoFuel(t *testing.T) { // P29.3: all steps of a round leave their fuel, and it is quiet behind them
	for _, s := range emptied() {
		if s.flow(t).Quiet() {
			t.Fatalf("%s: it is quiet", s.name)
		}
		nodes, at := len(s.p.Nodes), 1
		if s.p.Nodes[1].Kind == api.NodeInput {
			at = 2
		}
		f := s.flow(t)
		if left, e := f.Step(at, 1); left != 1 || e != api.OK || !f.Quiet() {
			t.Fatalf("%s: %d left, error %d, quiet %v", s.name, left, int(e), f.Quiet())
		}
		for count := at + 1; count <= nodes; count++ {
			for _, most := range []int{at + 1, at + 2, 100} {
				if n, quiet, e := s.settles(t, count, most); n != at+1 || !quiet || e != api.OK {
					t.Fatalf("%s: %d, %v, error %d", s.name, n, quiet, int(e))
				}
			}
			if n, quiet, e := settle.Settle(s.flow(t), count, high); n != at+1 || !quiet || e != api.OK {
				t.Fatalf("%s: %d, %v, error %d", s.name, n, quiet, int(e))
			}
		}
		if n, quiet, e := s.settles(t, nodes, at); n != at || quiet || e != api.OK {
			t.Fatalf("%s: %d, %v, error %d", s.name, n, quiet, int(e))
		}
	}
}

func TestWithoutRoom(t *testing.T) { // P29.3: a node that stands still, for its user has no room, has a step all the same
	s := subjectOf("no room", planOf(1, input(num), negate(0), bucket(1, 0, 8, 1), negate(2)))
	for i := range 5 {
		s.calls = append(s.calls, insert(0, up(r(i), i, 4-i, 1)))
	}
	all, quiet, e := driven(s.flow(t), 4, 100000)
	if !quiet || e != api.OK || all < 4*40 {
		t.Fatalf("%d, %v, error %d", all, quiet, int(e))
	}
	for _, most := range []int{1, 10, 50, all - 1, all, all + 1} {
		s.settles(t, 4, most)
	}
}

func TestManyInAJoin(t *testing.T) { // P29.4: what waits in a join waits for a turn each
	s := subjectOf("a join", planOf(2, input(num, num), joins(0, 0, 1), negate(1)))
	for i := range 20 {
		s.calls = append(s.calls, insert(0, up(r(1, i), 0, 0, 1)))
	}
	f := s.flow(t)
	bound, _ := settle.Bound(s.p, 20)
	n, quiet, e := settle.Settle(f, 3, bound)
	if !quiet || e != api.OK || n < 3*440 {
		t.Fatalf("%d, %v, error %d", n, quiet, int(e))
	}
	if l, _ := f.Out(0); len(l) != 400 {
		t.Fatalf("%d came", len(l))
	}
	isSettled(t, s.name, s.p, f)
}

func TestNewFlow(t *testing.T) { // P29.3: of all kinds of nodes, nothing is to be done
	f, _ := flow.New(everyKind())
	isSettled(t, "new", everyKind(), f)
	if n, e := settle.Round(f, 17); n != 17 || e != api.OK {
		t.Fatalf("%d, error %d", n, int(e))
	}
}

package deno_test

import (
	"fmt"
	"math/big"
	"slices"
	"strings"
	"testing"

	"runnel/api"
	"runnel/deno"
	"runnel/expr"
	"runnel/plan"
	"runnel/row"
)

// name is a row as a text, in which only what tells rows apart stands.
func name(l api.Row) string {
	var b strings.Builder
	for _, v := range l {
		switch v.Kind {
		case num:
			fmt.Fprintf(&b, "n%d ", v.Int)
		case text:
			fmt.Fprintf(&b, "t%q ", v.Str)
		default:
			fmt.Fprintf(&b, "k%d ", v.Kind)
		}
	}
	return b.String()
}

// tally keeps how many there are of each row, by its name, with numbers of any length. Once a sum was too great, it is so for good.
type tally struct {
	rows map[string]api.Row
	sums map[string]*big.Int
	over bool
}

func newTally() *tally { return &tally{map[string]api.Row{}, map[string]*big.Int{}, false} }

func (a *tally) add(l api.Row, diff *big.Int) {
	key := name(l)
	if a.sums[key] == nil {
		a.rows[key], a.sums[key] = l, new(big.Int)
	}
	a.sums[key].Add(a.sums[key], diff)
	a.over = a.over || !diff.IsInt64() || !a.sums[key].IsInt64()
}

func (a *tally) told() ([]api.Count, api.Errno) {
	if a.over {
		return nil, api.ErrOver
	}
	var l []api.Count
	for key, sum := range a.sums {
		if sum.Sign() != 0 {
			l = append(l, api.Count{Row: a.rows[key], Diff: int(sum.Int64())})
		}
	}
	slices.SortFunc(l, func(x, y api.Count) int { return row.Order(x.Row, y.Row) })
	return l, api.OK
}

func times(x, y int) *big.Int { return new(big.Int).Mul(big.NewInt(int64(x)), big.NewInt(int64(y))) }

// askedTogether is what a list has of each row.
func askedTogether(l []api.Count) ([]api.Count, api.Errno) {
	all := newTally()
	for _, x := range l {
		all.add(x.Row, times(1, x.Diff))
	}
	return all.told()
}

// isAnyOf says "from .. to" in other words than the program does.
func isAnyOf(x, from, to int) bool { return max(x, from) == x && min(x, to) == x }

// askedShape is what is asked of a node ahead of its rows.
func askedShape(k api.Node, ins int) api.Errno {
	if !isAnyOf(k.Kind, 1, 15) {
		return api.ErrKind
	}
	right := ins == 1
	if k.Kind == api.NodeConcat {
		right = isAnyOf(ins, 1, 8)
	}
	if k.Kind == api.NodeJoin {
		right = ins == 2
	}
	if !right || k.Kind == api.NodeFilter && len(k.Exprs) != 1 {
		return api.ErrArg
	}
	return api.OK
}

// askedNode is what the chapter says of a node.
func askedNode(k api.Node, ins [][]api.Count) ([]api.Count, api.Errno) {
	var has [][]api.Count
	for _, in := range ins {
		there, e := askedTogether(in)
		if e != api.OK {
			return nil, e
		}
		has = append(has, there)
	}
	if e := askedShape(k, len(ins)); e != api.OK {
		return nil, e
	}
	if isAnyOf(k.Kind, api.NodeDistinct, api.NodeTop) {
		return askedGroup(k, has[0])
	}
	if k.Kind == api.NodeJoin {
		return askedJoin(k.Key, has[0], has[1])
	}
	all := newTally()
	for _, x := range slices.Concat(has...) {
		rows, e := askedRows(k, x.Row)
		if e != api.OK {
			return nil, e
		}
		often := times(1, x.Diff)
		if k.Kind == api.NodeNegate {
			often.Neg(often)
		}
		for _, one := range rows {
			all.add(one, often)
		}
	}
	return all.told()
}

// askedRows is what a node makes of one row.
func askedRows(k api.Node, one api.Row) ([]api.Row, api.Errno) {
	switch k.Kind {
	case api.NodeMap, api.NodeFilter:
		var values api.Row
		for _, x := range k.Exprs {
			v, e := expr.Eval(x, one)
			if e != api.OK {
				return nil, e
			}
			values = append(values, v)
		}
		if k.Kind == api.NodeMap {
			return []api.Row{values}, api.OK
		}
		if values[0].Kind == text || values[0].Int == 0 {
			return nil, api.OK
		}
	case api.NodeProject:
		var values api.Row
		for _, at := range k.Cols {
			if !isAnyOf(at, 0, len(one)-1) {
				return nil, api.ErrRange
			}
			values = append(values, one[at])
		}
		return []api.Row{values}, api.OK
	case api.NodeBucket:
		return askedBuckets(k, one)
	}
	return []api.Row{one}, api.OK
}

func askedBuckets(k api.Node, one api.Row) ([]api.Row, api.Errno) {
	switch {
	case !isAnyOf(k.N, 0, len(one)-1):
		return nil, api.ErrRange
	case len(one) > 15:
		return nil, api.ErrMany
	case one[k.N].Kind != num:
		return nil, api.ErrType
	case !isAnyOf(k.Size, 1, 1<<40) || !isAnyOf(k.Slide, 1, 1<<40):
		return nil, api.ErrArg
	case (k.Size+k.Slide-1)/k.Slide > 64:
		return nil, api.ErrMany
	case !isAnyOf(one[k.N].Int, -1<<60, 1<<60):
		return nil, api.ErrOver
	}
	v := one[k.N].Int
	var rows []api.Row
	// All multiples that may be: from 64 below the one at v up to it.
	for b := v/k.Slide*k.Slide - 65*k.Slide; b <= v; b += k.Slide {
		if v < b+k.Size {
			rows = append(rows, append(slices.Clone(one), n(b)))
		}
	}
	return rows, api.OK
}

// askedJoin asks of each two rows whether they have the same key.
func askedJoin(key int, a, b []api.Count) ([]api.Count, api.Errno) {
	for _, x := range slices.Concat(a, b) {
		if !isAnyOf(key, 0, len(x.Row)) {
			return nil, api.ErrRange
		}
	}
	all := newTally()
	for _, x := range a {
		for _, y := range b {
			if name(x.Row[:key]) == name(y.Row[:key]) {
				all.add(slices.Concat(x.Row, y.Row[key:]), times(x.Diff, y.Diff))
			}
		}
	}
	return all.told()
}

// askedGroup is what the chapter of groups says.
func askedGroup(k api.Node, l []api.Count) ([]api.Count, api.Errno) {
	key := func(x api.Count) api.Row { return x.Row[:k.Key] }
	if k.Kind == api.NodeDistinct {
		key = func(x api.Count) api.Row { return x.Row }
	} else {
		for _, x := range l {
			if len(x.Row) < k.Key {
				return nil, api.ErrRange
			}
		}
		if k.Key < 0 {
			return nil, api.ErrRange
		}
	}
	if k.Kind == api.NodeTop && !isAnyOf(k.N, 1, 1000) {
		return nil, api.ErrArg
	}
	var told []api.Count
	for len(l) > 0 {
		first := name(key(l[0]))
		end := slices.IndexFunc(l, func(x api.Count) bool { return name(key(x)) != first })
		if end < 0 {
			end = len(l)
		}
		one, e := askedKey(k, l[:end])
		if e != api.OK {
			return nil, e
		}
		told, l = append(told, one...), l[end:]
	}
	return told, api.OK
}

// askedKey is what comes of the rows with one key.
func askedKey(k api.Node, run []api.Count) ([]api.Count, api.Errno) {
	if k.Kind == api.NodeCount || k.Kind == api.NodeSum {
		return askedSum(k, run)
	}
	left := k.N
	if k.Kind != api.NodeTop {
		left = 1
	}
	var told []api.Count
	for _, x := range run {
		if x.Diff <= 0 {
			continue
		}
		if k.Kind == api.NodeMax {
			told, left = nil, 1
		}
		if often := min(x.Diff, left); often > 0 {
			told, left = append(told, api.Count{Row: x.Row, Diff: often}), left-often
		}
	}
	return told, api.OK
}

func askedSum(k api.Node, run []api.Count) ([]api.Count, api.Errno) {
	numbers := many(len(run), 1)
	for i, x := range run {
		if k.Kind == api.NodeCount {
			continue
		}
		if !isAnyOf(k.N, 0, len(x.Row)-1) {
			return nil, api.ErrRange
		}
		if x.Row[k.N].Kind != num {
			return nil, api.ErrType
		}
		numbers[i] = x.Row[k.N].Int
	}
	all := newTally()
	for i, x := range run {
		all.add(nil, times(x.Diff, numbers[i]))
	}
	if all.over {
		return nil, api.ErrOver
	}
	sum := int(all.sums[""].Int64())
	if sum == 0 && k.Kind == api.NodeCount {
		return nil, api.OK
	}
	return []api.Count{{Row: append(slices.Clone(run[0].Row[:k.Key]), n(sum)), Diff: 1}}, api.OK
}

// askedInputs are the nodes that are inputs.
func askedInputs(p api.Plan) []int {
	var l []int
	for at, k := range p.Nodes {
		if k.Kind == 0 {
			l = append(l, at)
		}
	}
	return l
}

// isOf: may it be a row with these kinds?
func isOf(one api.Row, kinds []int) bool {
	if len(one) != len(kinds) || len(one) > 16 {
		return false
	}
	for i, v := range one {
		if v.Kind != kinds[i] || v.Kind != num && (v.Kind != text || len(v.Str) > 4096) {
			return false
		}
	}
	return true
}

// askedCounts is what the chapter says of a plan, of all its nodes.
func askedCounts(p api.Plan, inputs [][]api.Count) (has [][]api.Count, e api.Errno) {
	if e, _ := plan.Check(p); e != api.OK {
		return nil, e
	}
	if len(inputs) != len(askedInputs(p)) {
		return nil, api.ErrArg
	}
	given := map[int][]api.Count{}
	for i, at := range askedInputs(p) {
		given[at] = inputs[i]
		for _, x := range inputs[i] {
			if !isOf(x.Row, p.Nodes[at].Kinds) {
				return nil, api.ErrType
			}
		}
	}
	order, _ := plan.Order(p)
	has = make([][]api.Count, len(p.Nodes))
	for _, at := range order {
		k := p.Nodes[at]
		if k.Kind == api.NodeInput {
			has[at], e = askedTogether(given[at])
		} else {
			var ins [][]api.Count
			for _, in := range k.Ins {
				ins = append(ins, has[in])
			}
			has[at], e = askedNode(k, ins)
		}
		if e != api.OK {
			return nil, e
		}
	}
	return has, api.OK
}

func outsOf(p api.Plan, has [][]api.Count) [][]api.Count {
	var l [][]api.Count
	for _, out := range p.Outs {
		l = append(l, has[out])
	}
	return l
}

func askedFits(kinds []int, l []api.Up) api.Errno {
	for _, x := range l {
		if !isOf(x.Row, kinds) {
			return api.ErrType
		}
		if !isAnyOf(x.Time.Epoch, 0, 1<<40) || !isAnyOf(x.Time.Round, 0, 1<<40) {
			return api.ErrTime
		}
		if x.Diff == 0 {
			return api.ErrArg
		}
	}
	return api.OK
}

// askedAt is what the chapter says of a plan at a time, of all its nodes.
func askedAt(p api.Plan, inputs [][]api.Up, when api.Time) ([][]api.Count, api.Errno) {
	if e, _ := plan.Check(p); e != api.OK {
		return nil, e
	}
	if len(inputs) != len(askedInputs(p)) {
		return nil, api.ErrArg
	}
	for i, at := range askedInputs(p) {
		if e := askedFits(p.Nodes[at].Kinds, inputs[i]); e != api.OK {
			return nil, e
		}
	}
	var then [][]api.Count
	for _, l := range inputs {
		var upTo []api.Count
		for _, x := range l {
			if x.Time.Epoch <= when.Epoch && x.Time.Round <= when.Round {
				upTo = append(upTo, api.Count{Row: x.Row, Diff: x.Diff})
			}
		}
		there, e := askedTogether(upTo)
		if e != api.OK {
			return nil, e
		}
		then = append(then, there)
	}
	return askedCounts(p, then)
}

// hold holds what a node makes against what is asked.
func hold(t *testing.T, k api.Node, ins [][]api.Count) api.Errno {
	t.Helper()
	want, e := askedNode(k, ins)
	if got, gotErr := deno.Node(k, ins); !same(got, want) || gotErr != e {
		t.Errorf("Node(%+v, %v) = %v, %d, want %v, %d", k, ins, got, gotErr, want, e)
	}
	return e
}

// holdWhole holds what a plan means against what is asked: of counts, and of changes at a time.
func holdWhole(t *testing.T, p api.Plan, inputs [][]api.Count, ups [][]api.Up, when api.Time) (e, atErr api.Errno) {
	t.Helper()
	has, e := askedCounts(p, inputs)
	want := [][]api.Count(nil)
	if e == api.OK {
		want = outsOf(p, has)
	}
	if got, gotErr := deno.Counts(p, inputs); !sameLists(got, want) || gotErr != e {
		t.Errorf("Counts(%+v, %v) = %v, %d, want %v, %d", p, inputs, got, gotErr, want, e)
	}
	has, atErr = askedAt(p, ups, when)
	want = nil
	if atErr == api.OK {
		want = outsOf(p, has)
	}
	if got, gotErr := deno.At(p, ups, when); !sameLists(got, want) || gotErr != atErr {
		t.Errorf("At(%+v, %v, %v) = %v, %d, want %v, %d", p, ups, when, got, gotErr, want, atErr)
	}
	return e, atErr
}

func TestByHandIsAsked(t *testing.T) { // P18.1: what is told by hand is what is asked
	for _, k := range slices.Concat(simpleMade(), groupMade(), joinMade()) {
		if e := hold(t, k.node, k.ins); e != api.OK {
			t.Errorf("%s: %d", k.name, e)
		}
	}
	for _, k := range slices.Concat(shapeFaults(), rowFaults(), groupFaults(), joinFaults(), sumFaults()) {
		if e := hold(t, k.node, k.ins); e != k.want {
			t.Errorf("%s: %d, want %d", k.name, e, k.want)
		}
	}
}

// chance tells numbers that follow from one alone: the same ones whenever it is made.
type chance uint64

func (x *chance) below(bound int) int {
	*x = *x*6364136223846793005 + 1442695040888963407
	return int(uint64(*x)>>33) % bound
}

// val is one of few of its kind, so that many are alike.
func (x *chance) val(kind int) api.Val {
	if kind == text {
		return s([]string{"", "a", "b", "ab"}[x.below(4)])
	}
	if x.below(60) == 0 {
		return n([]int{low, high, low + 1, 1 << 60, -1 << 60, 1<<60 + 1}[x.below(6)])
	}
	return n(x.below(6) - 2)
}

func (x *chance) row(kinds []int) api.Row {
	var l api.Row
	for _, kind := range kinds {
		l = append(l, x.val(kind))
	}
	return l
}

// diff is mostly little, and now and then as great as may be.
func (x *chance) diff(great int) int {
	if great > 0 && x.below(great) == 0 {
		return []int{low, high, low + 1, high - 1, high / 2, low / 2, 1 << 31, -1 << 32, 0}[x.below(9)]
	}
	return []int{1, 1, 1, 2, 3, -1, -1, -2}[x.below(8)]
}

func (x *chance) counts(kinds []int, most, great int) []api.Count {
	var l []api.Count
	for range x.below(most + 1) {
		l = append(l, api.Count{Row: x.row(kinds), Diff: x.diff(great)})
	}
	return l
}

func (x *chance) kinds(most int) []int {
	var l []int
	for range x.below(most + 1) {
		l = append(l, x.below(3)%2)
	}
	return l
}

// expr is a short one, which over these columns is often right.
func (x *chance) expr(columns int) []api.Term {
	some := func() []api.Term { return col(x.below(columns + 1)) }
	l := [][]api.Term{number(x.below(3)), word("a"), some(), some(), of(api.OpLen, some()), of(api.OpMul, some(), number(2)), of(api.OpAdd, some(), some()),
		of(api.OpLess, some(), number(1)), of(api.OpCat, some(), some()), of(api.OpEq, some(), some()), of(api.OpNot, some()), of(api.OpMax, some(), some())}
	return l[x.below(len(l))]
}

// node is one of any kind but an input, with numbers that are often right for ins with so many columns.
func (x *chance) node(columns int) api.Node {
	k := api.Node{Kind: 1 + x.below(15), Key: x.below(columns + 1), N: x.below(columns + 1), Size: 1 + x.below(8), Slide: 1 + x.below(4)}
	if k.Kind == api.NodeTop {
		k.N++
	}
	for range x.below(4) {
		k.Cols = append(k.Cols, x.below(columns+1))
	}
	count := 1
	if k.Kind == api.NodeMap {
		count = x.below(4)
	}
	for range count {
		k.Exprs = append(k.Exprs, x.expr(columns))
	}
	return k
}

// ins is how many of them a node of a kind is fed by.
func (x *chance) ins(kind int) int {
	switch kind {
	case api.NodeInput:
		return 0
	case api.NodeConcat:
		return 1 + x.below(4)
	case api.NodeJoin:
		return 2
	}
	return 1
}

func TestDrawnNodes(t *testing.T) { // P18.1: rows that are alike, rows of all sorts, and numbers that are too great
	x := chance(18)
	seen := map[api.Errno]int{}
	for round := range 40000 {
		kinds, columns := x.kinds(3), 3
		if round%2 == 0 {
			columns = len(kinds)
		}
		k := x.node(columns)
		var ins [][]api.Count
		for range x.ins(k.Kind) {
			l := x.counts(kinds, 7, 20)
			if round%2 == 1 {
				for i := range l {
					l[i].Row = x.row(x.kinds(3))
				}
			}
			ins = append(ins, l)
		}
		if round%7 == 0 {
			x.spoilNode(&k, &ins)
		}
		if seen[hold(t, k, ins)]++; t.Failed() {
			return
		}
	}
	for _, e := range []api.Errno{api.OK, api.ErrArg, api.ErrMany, api.ErrKind, api.ErrRange, api.ErrType, api.ErrOver, api.ErrForm} {
		if seen[e] < 5 {
			t.Errorf("only %d have the error %d", seen[e], e)
		}
	}
	if seen[api.OK] < 10000 {
		t.Errorf("only %d are good", seen[api.OK])
	}
}

// spoilNode turns one thing of what Node is handed.
func (x *chance) spoilNode(k *api.Node, ins *[][]api.Count) {
	odd := []int{low, -2, -1, 0, 4, 5, 16, 17, 65, 1000, 1001, 1 << 40, 1<<40 + 1, high}
	number := odd[x.below(len(odd))]
	switch x.below(8) {
	case 0:
		k.Kind = number
	case 1:
		k.Key = number
	case 2:
		k.N = number
	case 3:
		k.Size = number
	case 4:
		k.Slide = number
	case 5:
		k.Cols = append(k.Cols, number)
	case 6:
		l := [][]api.Term{nil, {{Op: number}}, slices.Concat(col(0), col(0)), many(65, api.Term{Op: api.OpInt}), word(long() + "x"), of(api.OpNeg)}
		k.Exprs = slices.Insert(k.Exprs, x.below(len(k.Exprs)+1), l[x.below(len(l))])
	case 7:
		*ins = append(*ins, *ins...)[:x.below(len(*ins)*2+1)]
	}
}

// bound is how many rows a node may have at most, of how many its ins may have.
func bound(k api.Node, ins []int) int {
	switch k.Kind {
	case api.NodeInput:
		return 5
	case api.NodeJoin:
		return ins[0] * ins[1]
	case api.NodeBucket:
		return ins[0] * (k.Size/k.Slide + 1)
	}
	all := 0
	for _, count := range ins {
		all += count
	}
	return all
}

// good is a plan that may be, of so many nodes, each fed by those ahead of it, with few rows.
func (x *chance) good(count int) api.Plan {
	p := api.Plan{Outs: []int{0}, Room: 1 + x.below(api.MaxRoom)}
	var kinds [][]int
	var bounds []int
	for len(p.Nodes) < count {
		k := input(x.kinds(3)...)
		var ins []int
		if len(p.Nodes) > 0 && x.below(5) > 0 {
			from := x.below(len(p.Nodes))
			k = x.node(len(kinds[from]))
			for i := range x.ins(k.Kind) {
				if i > 0 {
					from = x.below(len(p.Nodes))
				}
				k.Ins, ins = append(k.Ins, from), append(ins, bounds[from])
			}
		}
		longer := p
		longer.Nodes = append(slices.Clone(p.Nodes), k)
		if told, e := plan.Kinds(longer); e == api.OK && bound(k, ins) <= 150 {
			p, kinds, bounds = longer, told, append(bounds, bound(k, ins))
		}
	}
	p.Outs = nil
	for range 1 + x.below(api.MaxOuts) {
		p.Outs = append(p.Outs, x.below(count))
	}
	return p
}

// inputs are lists that fit a plan.
func (x *chance) inputs(p api.Plan, great int) [][]api.Count {
	l := [][]api.Count{}
	for _, at := range askedInputs(p) {
		l = append(l, x.counts(p.Nodes[at].Kinds, 5, great))
	}
	return l
}

func (x *chance) time() api.Time { return at(x.below(4), x.below(4)) }

// spread are changes with these rows and Diffs at any times.
func (x *chance) spread(inputs [][]api.Count) [][]api.Up {
	ups := atOnce(inputs)
	for _, l := range ups {
		for i := range l {
			l[i].Time = x.time()
		}
	}
	return ups
}

// order is the numbers below count in any order.
func (x *chance) order(count int) []int {
	l := make([]int, count)
	for i := range l {
		other := x.below(i + 1)
		l[i], l[other] = l[other], i
	}
	return l
}

// renumbered is the plan with each node at another place.
func renumbered(p api.Plan, to []int) api.Plan {
	q := api.Plan{Nodes: make([]api.Node, len(p.Nodes)), Room: p.Room}
	for at, k := range p.Nodes {
		k.Ins = slices.Clone(k.Ins)
		for i, in := range k.Ins {
			k.Ins[i] = to[in]
		}
		q.Nodes[to[at]] = k
	}
	for _, out := range p.Outs {
		q.Outs = append(q.Outs, to[out])
	}
	return q
}

func TestDrawnPlans(t *testing.T) { // P18.2, P18.3: good ones, in numbers that rise and in any order
	x := chance(180)
	seen := map[api.Errno]int{}
	for round := range 3000 {
		p := x.good(1 + x.below(10))
		p = renumbered(p, x.order(len(p.Nodes)))
		great := []int{0, 30, 8}[round%3]
		inputs := x.inputs(p, great)
		e, atErr := holdWhole(t, p, inputs, x.spread(inputs), x.time())
		seen[e]++
		if great == 0 {
			seen[atErr]++
		}
		if t.Failed() {
			return
		}
	}
	if seen[api.OK] < 1500 || seen[api.ErrOver] < 50 {
		t.Errorf("%v", seen)
	}
}

// spoilWhole turns one thing of a plan or of what its inputs have.
func (x *chance) spoilWhole(p *api.Plan, inputs *[][]api.Count, ups *[][]api.Up) {
	p.Nodes = slices.Clone(p.Nodes)
	k := &p.Nodes[x.below(len(p.Nodes))]
	one := []api.Val{n(0), s(""), {Kind: 2}, {Kind: -1}, s(long() + "x")}[x.below(5)]
	switch x.below(9) {
	case 0:
		p.Room = x.below(3) - 1
	case 1:
		p.Outs = append(slices.Clone(p.Outs), len(p.Nodes)-x.below(2))
	case 2:
		k.Ins = append(slices.Clone(k.Ins), x.below(len(p.Nodes)))
	case 3:
		k.Kind = x.below(18) - 1
	case 4:
		*inputs, *ups = append(*inputs, nil), append(*ups, nil)
	case 5:
		count := x.below(len(*inputs) + 1)
		*inputs, *ups = (*inputs)[:count], (*ups)[:count]
	case 6, 7:
		x.spoilRow(*inputs, *ups, one)
	case 8:
		x.spoilChange(*ups)
	}
}

// spoilRow makes one row of both another one.
func (x *chance) spoilRow(inputs [][]api.Count, ups [][]api.Up, one api.Val) {
	if len(inputs) == 0 {
		return
	}
	at := x.below(len(inputs))
	if len(inputs[at]) == 0 {
		return
	}
	i := x.below(len(inputs[at]))
	bad := slices.Clone(inputs[at][i].Row)
	if len(bad) == 0 || x.below(3) == 0 {
		bad = append(bad, one)
	} else {
		bad[x.below(len(bad))] = one
	}
	inputs[at][i].Row = bad
	ups[at][min(i, len(ups[at])-1)].Row = bad
}

// spoilChange gives one change a time or a Diff that may not be.
func (x *chance) spoilChange(ups [][]api.Up) {
	if len(ups) == 0 {
		return
	}
	if l := ups[x.below(len(ups))]; len(l) > 0 {
		one := &l[x.below(len(l))]
		if x.below(2) == 0 {
			one.Diff = 0
		} else {
			one.Time = []api.Time{at(-1, 0), at(0, -1), at(1<<40+1, 0), at(0, high)}[x.below(4)]
		}
	}
}

func TestSpoiltPlans(t *testing.T) { // P18.2, P18.3: the first of one, two, three faults
	x := chance(1818)
	counts, ats := map[api.Errno]int{}, map[api.Errno]int{}
	for range 2500 {
		p := x.good(1 + x.below(8))
		inputs := x.inputs(p, 20)
		ups := x.spread(inputs)
		for range 3 {
			x.spoilWhole(&p, &inputs, &ups)
			e, atErr := holdWhole(t, p, inputs, ups, x.time())
			counts[e]++
			ats[atErr]++
		}
		if t.Failed() {
			return
		}
	}
	for _, e := range []api.Errno{api.OK, api.ErrArg, api.ErrKind, api.ErrRange, api.ErrType, api.ErrLoop, api.ErrOver} {
		if counts[e] < 5 || ats[e] < 5 {
			t.Errorf("only %d and %d have the error %d", counts[e], ats[e], e)
		}
	}
	if ats[api.ErrTime] < 5 || counts[api.ErrTime] > 0 {
		t.Errorf("%d and %d have ErrTime", counts[api.ErrTime], ats[api.ErrTime])
	}
}

func TestWhereNodesStand(t *testing.T) { // P18.2: whatever the numbers of nodes are, an out has the same
	x := chance(81)
	for range 1000 {
		p := x.good(2 + x.below(8))
		to := x.order(len(p.Nodes))
		q := renumbered(p, to)
		inputs := x.inputs(p, 0)
		other := make([][]api.Count, len(inputs))
		for i, at := range askedInputs(p) {
			other[slices.Index(askedInputs(q), to[at])] = inputs[i]
		}
		want, e := deno.Counts(p, inputs)
		if got, otherErr := deno.Counts(q, other); e == api.OK && (otherErr != api.OK || !sameLists(got, want)) {
			t.Fatalf("Counts(%+v, %v) = %v, but %v, %d in another order", p, inputs, want, got, otherErr)
		}
	}
}

// split are the same rows with each Diff in ones, in any order.
func (x *chance) split(l []api.Count) []api.Count {
	var ones []api.Count
	for _, one := range l {
		for range max(one.Diff, -one.Diff) {
			ones = append(ones, api.Count{Row: one.Row, Diff: one.Diff / max(one.Diff, -one.Diff)})
		}
	}
	var turned []api.Count
	for _, at := range x.order(len(ones)) {
		turned = append(turned, ones[at])
	}
	return turned
}

func TestOneByOne(t *testing.T) { // P18.1: how a list stands, and in how many bits, plays no part
	x := chance(11)
	for range 5000 {
		kinds := x.kinds(3)
		k := x.node(len(kinds))
		var ins, other [][]api.Count
		for range x.ins(k.Kind) {
			ins = append(ins, x.counts(kinds, 6, 0))
			other = append(other, x.split(ins[len(ins)-1]))
		}
		want, e := deno.Node(k, ins)
		if got, otherErr := deno.Node(k, other); !same(got, want) || otherErr != e {
			t.Fatalf("Node(%+v, %v) = %v, %d, but %v, %d of %v", k, ins, want, e, got, otherErr, other)
		}
	}
}

// isLinear: does the chapter say so of a kind? Of a join it does of one side.
func isLinear(kind int) bool {
	return slices.Contains([]int{api.NodeMap, api.NodeFilter, api.NodeProject, api.NodeConcat, api.NodeNegate, api.NodeBucket, api.NodeConsolidate, api.NodeArrange}, kind)
}

// both are two lists for each in, one behind the other.
func both(a, b [][]api.Count) [][]api.Count {
	var l [][]api.Count
	for i := range a {
		l = append(l, slices.Concat(a[i], b[i]))
	}
	return l
}

// holdTogether holds what a node makes of two collections together against what it makes of each, together.
func holdTogether(t *testing.T, k api.Node, a, b, all [][]api.Count) {
	t.Helper()
	ofA, e := deno.Node(k, a)
	ofB, otherErr := deno.Node(k, b)
	if e != api.OK || otherErr != api.OK {
		return
	}
	want, e := askedTogether(slices.Concat(ofA, ofB))
	if got, gotErr := deno.Node(k, all); e != api.OK || gotErr != api.OK || !same(got, want) {
		t.Errorf("Node(%+v, %v) = %v, %d, want %v, %d", k, all, got, gotErr, want, e)
	}
}

func TestWhatIsLinear(t *testing.T) { // P18.4: of two collections together what comes of each, together
	x := chance(184)
	seen := map[int]int{}
	for range 30000 {
		kinds := x.kinds(3)
		k := x.node(len(kinds))
		var a, b [][]api.Count
		for range x.ins(k.Kind) {
			a, b = append(a, x.counts(kinds, 5, 0)), append(b, x.counts(kinds, 5, 0))
		}
		switch {
		case isLinear(k.Kind):
			holdTogether(t, k, a, b, both(a, b))
		case k.Kind == api.NodeJoin:
			first, second := a[0], a[1]
			holdTogether(t, k, a, lists(b[0], second), lists(slices.Concat(first, b[0]), second))
			holdTogether(t, k, a, lists(first, b[1]), lists(first, slices.Concat(second, b[1])))
		}
		if seen[k.Kind]++; t.Failed() {
			return
		}
	}
	for kind := range 15 {
		if seen[kind+1] < 500 {
			t.Errorf("only %d of the kind %d", seen[kind+1], kind+1)
		}
	}
}

func TestRowsHaveTheirKinds(t *testing.T) { // P18.4: all rows that are made have the kinds that plan.Kinds tells
	x := chance(48)
	rows := map[int]int{}
	for range 2500 {
		p := x.good(1 + x.below(12))
		kinds, _ := plan.Kinds(p)
		inputs := x.inputs(p, 0)
		for at := range p.Nodes {
			p.Outs = []int{at}
			has, e := deno.Counts(p, inputs)
			if e != api.OK {
				continue
			}
			for _, one := range has[0] {
				if rows[p.Nodes[at].Kind]++; !isOf(one.Row, kinds[at]) || one.Diff == 0 {
					t.Fatalf("the node %d of %+v has %v, of the kinds %v", at, p, one, kinds[at])
				}
			}
			if !slices.IsSortedFunc(has[0], func(a, b api.Count) int { return row.Order(a.Row, b.Row) }) {
				t.Fatalf("the node %d of %+v has %v", at, p, has[0])
			}
		}
	}
	for kind := range api.Nodes {
		if rows[kind] < 100 {
			t.Errorf("only %d rows of the kind %d", rows[kind], kind)
		}
	}
}

func TestOutsAreWhatNodesMake(t *testing.T) { // P18.2: node by node, with Node alone
	x := chance(182)
	for range 800 {
		p := x.good(1 + x.below(8))
		inputs := x.inputs(p, 0)
		p.Outs = p.Outs[:1]
		got, e := deno.Counts(p, inputs)
		if e != api.OK {
			continue
		}
		var has func(at int) []api.Count
		has = func(at int) []api.Count {
			k := p.Nodes[at]
			if k.Kind == api.NodeInput {
				return inputs[slices.Index(plan.Inputs(p), at)]
			}
			var ins [][]api.Count
			for _, in := range k.Ins {
				ins = append(ins, has(in))
			}
			l, _ := deno.Node(k, ins)
			return l
		}
		if want, e := askedTogether(has(p.Outs[0])); e != api.OK || !same(got[0], want) {
			t.Fatalf("Counts(%+v, %v) = %v, want %v", p, inputs, got, want)
		}
	}
}

func TestAtIsCountsOfWhatCame(t *testing.T) { // P18.3: of the changes up to a time, whatever the others are
	x := chance(183)
	for range 1500 {
		p := x.good(1 + x.below(8))
		ups, when := x.spread(x.inputs(p, 0)), x.time()
		var came [][]api.Count
		for _, l := range ups {
			var there []api.Count
			for _, one := range l {
				if max(one.Time.Epoch, when.Epoch) == when.Epoch && max(one.Time.Round, when.Round) == when.Round {
					there = append(there, api.Count{Row: one.Row, Diff: one.Diff})
				}
			}
			came = append(came, there)
		}
		want, e := deno.Counts(p, came)
		if got, atErr := deno.At(p, ups, when); !sameLists(got, want) || atErr != e {
			t.Fatalf("At(%+v, %v, %v) = %v, %d, want %v, %d", p, ups, when, got, atErr, want, e)
		}
	}
}

func TestManyRows(t *testing.T) { // P18.1: a join of long lists meets each key's rows alone
	var a, b, want []api.Count
	for i := range 20000 {
		a, b = append(a, o(1, (i*7919)%20000, i)), append(b, o(2, (i*104729)%20000+10000))
	}
	for i := range 20000 {
		if key := (i * 7919) % 20000; key >= 10000 {
			want = append(want, o(2, key, i))
		}
	}
	slices.SortFunc(want, func(x, y api.Count) int { return row.Order(x.Row, y.Row) })
	if got, e := deno.Node(join(1), lists(a, b)); e != api.OK || !same(got, want) {
		t.Errorf("%d rows, %d, want %d rows", len(got), e, len(want))
	}
}

// reader takes small numbers from bytes.
type reader []byte

func (b *reader) next() int {
	if len(*b) == 0 {
		return 0
	}
	first := int((*b)[0])
	*b = (*b)[1:]
	return first
}

// number is little, or at an edge.
func (b *reader) number() int {
	first := b.next()
	if first >= 240 {
		return []int{low, high, low + 1, high - 1, 1 << 60, -1 << 60, 1<<60 + 1, 1 << 40, 1<<40 + 1, 16, 17, 64, 65, 1000, 1001, 1 << 31}[first-240]
	}
	return first%7 - 2
}

func (b *reader) numbers(most int) []int {
	var l []int
	for range b.next() % (most + 1) {
		l = append(l, b.number())
	}
	return l
}

func (b *reader) row(most int) api.Row {
	var l api.Row
	for range b.next() % (most + 1) {
		v := api.Val{Kind: b.next() % 9 % 3, Int: b.number()}
		v.Str = "abcd"[:v.Int&3]
		l = append(l, v)
	}
	return l
}

func (b *reader) counts(most int) []api.Count {
	var l []api.Count
	for range b.next() % (most + 1) {
		l = append(l, api.Count{Row: b.row(3), Diff: b.number()})
	}
	return l
}

func (b *reader) node() api.Node {
	k := api.Node{Kind: b.next()%18 - 1, Key: b.number(), N: b.number(), Size: b.number(), Slide: b.number(), Cols: b.numbers(3), Kinds: b.numbers(3), Ins: b.numbers(3)}
	for range b.next() % 4 {
		var l []api.Term
		for range b.next() % 5 {
			l = append(l, api.Term{Op: b.next() % 20, Int: b.number(), Str: "xy"[:b.next()%3]})
		}
		k.Exprs = append(k.Exprs, l)
	}
	return k
}

// folded is the node with a shape that may be, fed by nodes ahead of the place.
func folded(k api.Node, at int) api.Node {
	if k.Kind = max(0, min(k.Kind, 15)); at == 0 {
		k.Kind = api.NodeInput
	}
	count := map[int]int{api.NodeInput: 0, api.NodeJoin: 2, api.NodeConcat: 1 + len(k.Cols)}
	ins, there := count[k.Kind]
	if !there {
		ins = 1
	}
	var l []int
	for i := range ins {
		from := at - 1
		if i < len(k.Ins) {
			from = (k.Ins[i]&7 + at) % at
		}
		l = append(l, from)
	}
	k.Ins = l
	for i := range k.Kinds {
		k.Kinds[i] &= 1
	}
	return k
}

// fit is a row with these kinds, of a row's numbers.
func fit(one api.Row, kinds []int) api.Row {
	var l api.Row
	for i, kind := range kinds {
		v := api.Val{Kind: kind}
		if i < len(one) {
			v.Int, v.Str = one[i].Int, one[i].Str
		}
		l = append(l, v)
	}
	return l
}

func FuzzMeanings(f *testing.F) { // P18.1 to P18.3
	f.Add([]byte{})
	f.Add([]byte{16, 3, 2, 2, 2, 0, 0, 0, 0, 2, 2, 2, 0, 3, 0, 7, 2, 2, 2, 0, 3, 0, 8})
	f.Add([]byte{3, 3, 3, 3, 3, 2, 3, 2, 0, 0, 1, 2, 0, 3, 0, 4, 2, 1, 0, 240, 241, 1, 0, 3, 3})
	f.Add([]byte{8, 2, 2, 6, 3, 0, 0, 0, 0, 1, 3, 1, 0, 5, 3, 1, 0, 4, 3, 1, 0, 2, 1})
	f.Fuzz(func(t *testing.T, data []byte) {
		if len(data) > 400 {
			return
		}
		b := reader(data)
		k := b.node()
		var ins [][]api.Count
		for range b.next() % 4 {
			ins = append(ins, b.counts(5))
		}
		hold(t, k, ins)
		p := api.Plan{Room: 1}
		rows := 0
		for at := range 1 + b.next()%5 {
			k := folded(b.node(), at)
			p.Nodes = append(p.Nodes, k)
			p.Outs = append(p.Outs, at)
			if k.Kind == api.NodeJoin || k.Kind == api.NodeBucket {
				rows++
			}
		}
		if rows > 2 {
			return
		}
		var inputs [][]api.Count
		var ups [][]api.Up
		for _, at := range askedInputs(p) {
			l := b.counts(4)
			var changes []api.Up
			for i := range l {
				if b.next() < 250 {
					l[i].Row = fit(l[i].Row, p.Nodes[at].Kinds)
				}
				changes = append(changes, api.Up{Row: l[i].Row, Time: api.Time{Epoch: b.next() % 5, Round: b.number() + 2}, Diff: l[i].Diff})
			}
			inputs, ups = append(inputs, l), append(ups, changes)
		}
		holdWhole(t, p, inputs, ups, api.Time{Epoch: b.next() % 5, Round: b.number() + 2})
	})
}

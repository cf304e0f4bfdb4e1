package linear_test

import (
	"cmp"
	"encoding/binary"
	"math/big"
	"slices"
	"testing"

	"runnel/api"
	"runnel/deno"
	"runnel/linear"
	"runnel/row"
	"runnel/zset"
)

// tree is an expression as it is read: a step, and what it is of.
type tree struct {
	step api.Term
	subs []tree
}

// steps are a tree's in the order in which they are done.
func (x tree) steps() []api.Term {
	var l []api.Term
	for _, sub := range x.subs {
		l = append(l, sub.steps()...)
	}
	return append(l, x.step)
}

// kind is that of a tree's value over a row, or the first fault.
func (x tree) kind(over api.Row) (int, api.Errno) {
	var kinds []int
	for _, sub := range x.subs {
		kind, e := sub.kind(over)
		if e != api.OK {
			return 0, e
		}
		kinds = append(kinds, kind)
	}
	return x.own(over, kinds)
}

// own is the kind that a step makes of those of what it is of.
func (x tree) own(over api.Row, kinds []int) (int, api.Errno) {
	alike := func(want ...int) bool { return slices.Equal(kinds, want) }
	var fits bool
	made := num
	switch x.step.Op {
	case api.OpCol:
		if !isAnyOf(x.step.Int, 0, len(over)-1) {
			return 0, api.ErrRange
		}
		return over[x.step.Int].Kind, api.OK
	case api.OpInt:
		fits = true
	case api.OpStr:
		if len(x.step.Str) > 4096 {
			return 0, api.ErrLong
		}
		fits, made = true, text
	case api.OpNeg, api.OpNot:
		fits = alike(num)
	case api.OpEq, api.OpLess:
		fits = kinds[0] == kinds[1]
	case api.OpMin, api.OpMax:
		fits, made = kinds[0] == kinds[1], kinds[0]
	case api.OpIf:
		fits, made = kinds[0] == num && kinds[1] == kinds[2], kinds[1]
	case api.OpLen:
		fits = alike(text)
	case api.OpCat:
		fits, made = alike(text, text), text
	default:
		fits = alike(num, num)
	}
	if !fits {
		return 0, api.ErrType
	}
	return made, api.OK
}

// value is what a tree whose kinds fit is worth over a row, or the first error.
func (x tree) value(over api.Row) (api.Val, api.Errno) {
	var l []api.Val
	for _, sub := range x.subs {
		one, e := sub.value(over)
		if e != api.OK {
			return api.Val{}, e
		}
		l = append(l, one)
	}
	switch x.step.Op {
	case api.OpCol:
		return over[x.step.Int], api.OK
	case api.OpInt:
		return n(x.step.Int), api.OK
	case api.OpStr:
		return s(x.step.Str), api.OK
	case api.OpMin, api.OpMax:
		slices.SortFunc(l, askedOrder)
		return l[x.step.Op-api.OpMin], api.OK
	case api.OpIf:
		if l[0].Int == 0 {
			return l[2], api.OK
		}
		return l[1], api.OK
	case api.OpCat:
		if len(l[0].Str)+len(l[1].Str) > 4096 {
			return api.Val{}, api.ErrLong
		}
		return s(l[0].Str + l[1].Str), api.OK
	}
	made, e := reckon(x.step.Op, l)
	if e != api.OK || !made.IsInt64() {
		return api.Val{}, api.ErrOver
	}
	return n(int(made.Int64())), api.OK
}

// askedOrder is that of two values of one kind.
func askedOrder(a, b api.Val) int {
	switch a.Kind {
	case num:
		return cmp.Compare(a.Int, b.Int)
	case text:
		return cmp.Compare(a.Str, b.Str)
	}
	return 0
}

func truth(is bool) *big.Int {
	if is {
		return big.NewInt(1)
	}
	return new(big.Int)
}

// reckon is the number that a step makes, of any length. What a division of the least number by -1 leaves is too great, too.
func reckon(op int, l []api.Val) (*big.Int, api.Errno) {
	a, b := big.NewInt(int64(l[0].Int)), big.NewInt(int64(l[len(l)-1].Int))
	switch op {
	case api.OpAdd:
		return a.Add(a, b), api.OK
	case api.OpSub:
		return a.Sub(a, b), api.OK
	case api.OpMul:
		return a.Mul(a, b), api.OK
	case api.OpDiv, api.OpMod:
		if b.Sign() == 0 {
			return b, api.OK
		}
		whole, left := new(big.Int).QuoRem(a, b, new(big.Int))
		if !whole.IsInt64() {
			return nil, api.ErrOver
		}
		if op == api.OpDiv {
			return whole, api.OK
		}
		return left, api.OK
	case api.OpNeg:
		return a.Neg(a), api.OK
	case api.OpNot:
		return truth(a.Sign() == 0), api.OK
	case api.OpAnd:
		return truth(a.Sign()*b.Sign() != 0), api.OK
	case api.OpOr:
		return truth(a.Sign() != 0 || b.Sign() != 0), api.OK
	case api.OpEq:
		return truth(askedOrder(l[0], l[1]) == 0), api.OK
	case api.OpLess:
		return truth(askedOrder(l[0], l[1]) < 0), api.OK
	}
	return big.NewInt(int64(len(l[0].Str))), api.OK // OpLen
}

// worth is what expr.Eval is asked of a tree.
func (x tree) worth(over api.Row) (api.Val, api.Errno) {
	if _, e := x.kind(over); e != api.OK {
		return api.Val{}, e
	}
	return x.value(over)
}

// grown is a node whose Exprs are trees.
type grown struct {
	api.Node
	trees []tree
}

// isAnyOf says "from .. to" in other words than the program does.
func isAnyOf(x, from, to int) bool { return max(x, from) == x && min(x, to) == x }

// askedRows is what the chapters say of a row.
func askedRows(k grown, one api.Row) ([]api.Row, api.Errno) {
	var made api.Row
	switch k.Kind {
	case api.NodeMap, api.NodeFilter:
		for _, x := range k.trees {
			value, e := x.worth(one)
			if e != api.OK {
				return nil, e
			}
			made = append(made, value)
		}
		if k.Kind == api.NodeMap {
			return rows(made), api.OK
		}
		if made[0].Kind != num || made[0].Int == 0 {
			return nil, api.OK
		}
	case api.NodeProject:
		for _, at := range k.Cols {
			if !isAnyOf(at, 0, len(one)-1) {
				return nil, api.ErrRange
			}
			made = append(made, one[at])
		}
		return rows(made), api.OK
	case api.NodeBucket:
		return askedBuckets(k.Node, one)
	}
	return rows(one), api.OK
}

func askedBuckets(k api.Node, one api.Row) ([]api.Row, api.Errno) {
	switch {
	case !isAnyOf(k.N, 0, len(one)-1):
		return nil, api.ErrRange
	case len(one) > 15:
		return nil, api.ErrMany
	case one[k.N].Kind != num:
		return nil, api.ErrType
	case !isAnyOf(k.Size, 1, 1<<40) || !isAnyOf(k.Slide, 1, 1<<40):
		return nil, api.ErrArg
	case (k.Size+k.Slide-1)/k.Slide > 64:
		return nil, api.ErrMany
	case !isAnyOf(one[k.N].Int, -1<<60, 1<<60):
		return nil, api.ErrOver
	}
	x := one[k.N].Int
	var made []api.Row
	// All multiples that may be: from 65 below the one at x up to it.
	for b := x/k.Slide*k.Slide - 65*k.Slide; b <= x; b += k.Slide {
		if x < b+k.Size {
			made = append(made, append(slices.Clone(one), n(b)))
		}
	}
	return made, api.OK
}

// askedDo is what the chapter says of one change.
func askedDo(k grown, u api.Up) ([]api.Up, api.Errno) {
	if !isAnyOf(k.Kind, 1, 5) && k.Kind != 7 {
		return nil, api.ErrKind
	}
	if k.Kind == api.NodeFilter && len(k.Exprs) != 1 {
		return nil, api.ErrArg
	}
	made, e := askedRows(k, u.Row)
	if e != api.OK {
		return nil, e
	}
	diff := big.NewInt(int64(u.Diff))
	if k.Kind == api.NodeNegate {
		diff.Neg(diff)
	}
	if !diff.IsInt64() {
		return nil, api.ErrOver
	}
	return with(made, u.Time, int(diff.Int64())), api.OK
}

// chance tells numbers that follow from one alone: the same ones whenever it is made.
type chance uint64

func (x *chance) below(bound int) int {
	*x = *x*6364136223846793005 + 1442695040888963407
	return int(uint64(*x)>>33) % bound
}

// great are numbers that are nearly too great, or are.
func great() []int {
	return []int{low, low + 1, high, high - 1, high / 2, low / 2, 1 << 60, 1<<60 + 1, -1 << 60, -1<<60 - 1, 1 << 40, 1 << 31, 1 << 32, 0}
}

func (x *chance) number(one int) int {
	if x.below(one) == 0 {
		return great()[x.below(len(great()))]
	}
	return x.below(9) - 3
}

func (x *chance) val(kind int) api.Val {
	switch kind {
	case num:
		return n(x.number(25))
	case text:
		return s([]string{"", "a", "b", "ab", "\x00", long()}[x.below(6)])
	}
	return odd(kind)
}

// kinds are mostly few, and those of values that may be.
func (x *chance) kinds(most int) []int {
	if x.below(40) == 0 {
		return many(15+x.below(3), num)
	}
	var l []int
	for range x.below(most + 1) {
		l = append(l, []int{num, num, num, num, num, text, text, text, 2}[x.below(9)])
	}
	return l
}

func (x *chance) row(kinds []int) api.Row {
	var l api.Row
	for _, kind := range kinds {
		l = append(l, x.val(kind))
	}
	return l
}

func (x *chance) time() api.Time { return at(x.below(4), x.below(4)) }

func (x *chance) change(kinds []int, one int) api.Up {
	return api.Up{Row: x.row(kinds), Time: x.time(), Diff: x.number(one)}
}

// count is how many values a step is of.
func count(op int) int {
	switch op {
	case api.OpCol, api.OpInt, api.OpStr:
		return 0
	case api.OpNeg, api.OpNot, api.OpLen:
		return 1
	case api.OpIf:
		return 3
	}
	return 2
}

// tree is one that may be over these columns, mostly; with wild of any steps.
func (x *chance) tree(want int, kinds []int, deep int, wild bool) tree {
	var fits []int
	for i, kind := range kinds {
		if kind == want {
			fits = append(fits, i)
		}
	}
	numbers := []int{api.OpAdd, api.OpSub, api.OpMul, api.OpDiv, api.OpMod, api.OpNeg, api.OpNot, api.OpAnd, api.OpOr, api.OpEq, api.OpLess, api.OpLen, api.OpIf, api.OpMin, api.OpMax}
	words := []int{api.OpCat, api.OpIf, api.OpMin, api.OpMax}
	switch {
	case wild && x.below(6) == 0:
		return tree{step: api.Term{Op: api.OpCol, Int: x.below(len(kinds)+2) - 1}}
	case deep == 0 && len(fits) > 0 && x.below(4) > 0:
		return tree{step: api.Term{Op: api.OpCol, Int: fits[x.below(len(fits))]}}
	case deep == 0 && want == num:
		return tree{step: api.Term{Op: api.OpInt, Int: x.number(20)}}
	case deep == 0:
		return tree{step: api.Term{Op: api.OpStr, Str: []string{"", "a", "yz"}[x.below(3)]}}
	case want == num:
		return x.fed(numbers[x.below(len(numbers))], num, kinds, deep, wild)
	}
	return x.fed(words[x.below(len(words))], text, kinds, deep, wild)
}

// fed is a step with what it is of.
func (x *chance) fed(op, want int, kinds []int, deep int, wild bool) tree {
	made := tree{step: api.Term{Op: op}}
	of := want
	switch op {
	case api.OpLen:
		of = text
	case api.OpEq, api.OpLess:
		of = x.below(2)
	}
	for i := range count(op) {
		kind := of
		if op == api.OpIf && i == 0 {
			kind = num
		}
		made.subs = append(made.subs, x.tree(kind, kinds, x.below(deep), wild))
	}
	return made
}

// node is one of the six kinds, with numbers that are mostly right for rows of these kinds.
func (x *chance) node(kinds []int, wild bool) grown {
	columns := len(kinds)
	k := grown{Node: api.Node{Kind: sixKinds()[x.below(6)], N: x.below(columns + 1), Size: 1 + x.below(9), Slide: 1 + x.below(4)}}
	for range x.below(4) {
		k.Cols = append(k.Cols, x.below(max(columns, 1)))
	}
	count := 1
	if k.Kind == api.NodeMap {
		count = x.below(4)
	}
	for range count {
		k.trees = append(k.trees, x.tree(x.below(3)%2, kinds, x.below(4), wild))
	}
	for _, one := range k.trees {
		k.Exprs = append(k.Exprs, one.steps())
	}
	return k
}

// spoil turns one number of a node.
func (x *chance) spoil(k *grown) {
	numbers := append(great(), -2, -1, 0, 1, 4, 5, 6, 8, 9, 15, 16, 17, 64, 65)
	one := numbers[x.below(len(numbers))]
	switch x.below(7) {
	case 0:
		k.Kind = one
	case 1:
		k.N = one
	case 2:
		k.Size = one
	case 3:
		k.Slide = one
	case 4:
		k.Cols = append(k.Cols, one)
	case 5:
		k.trees, k.Exprs = append(k.trees, k.trees...), append(k.Exprs, k.Exprs...)
	case 6:
		k.trees, k.Exprs = nil, nil
	}
}

func TestDrawnTrees(t *testing.T) { // what is asked is itself held against what is known by hand
	of := func(op int, l ...tree) tree { return tree{api.Term{Op: op}, l} }
	number := func(x int) tree { return tree{step: api.Term{Op: api.OpInt, Int: x}} }
	word := func(x string) tree { return tree{step: api.Term{Op: api.OpStr, Str: x}} }
	for i, k := range []struct {
		tree tree
		want api.Val
		e    api.Errno
	}{
		{of(api.OpSub, number(2), number(5)), n(-3), api.OK},
		{of(api.OpDiv, number(-7), number(2)), n(-3), api.OK},
		{of(api.OpMod, number(-7), number(2)), n(-1), api.OK},
		{of(api.OpMod, number(low), number(-1)), n(0), api.ErrOver},
		{of(api.OpDiv, number(5), number(0)), n(0), api.OK},
		{of(api.OpIf, number(0), word("a"), word("b")), s("b"), api.OK},
		{of(api.OpLess, word("a"), word("b")), n(1), api.OK},
		{of(api.OpMin, number(4), number(3)), n(3), api.OK},
		{of(api.OpMax, number(4), number(3)), n(4), api.OK},
		{of(api.OpLen, word("abc")), n(3), api.OK},
		{of(api.OpLen, number(1)), n(0), api.ErrType},
		{of(api.OpAdd, number(high), number(1)), n(0), api.ErrOver},
	} {
		if got, e := k.tree.worth(nil); row.Cmp(got, k.want) != 0 || e != k.e {
			t.Errorf("%d: %v, %d, want %v, %d", i, got, e, k.want, k.e)
		}
	}
}

func TestDrawn(t *testing.T) { // P20.1: Do held against what the chapters say, reckoned in another way; rows and nodes drawn, good and spoilt
	x := chance(20)
	seen := map[api.Errno]int{}
	good := map[int]int{}
	for round := range 60000 {
		kinds := x.kinds(4)
		k := x.node(kinds, round%3 == 0)
		if round%5 == 0 {
			x.spoil(&k)
		}
		if round%7 == 0 {
			kinds = x.kinds(4)
		}
		u := x.change(kinds, 8)
		want, e := askedDo(k, u)
		holdDo(t, "drawn", k.Node, u, want, e)
		if t.Failed() {
			return
		}
		if seen[e]++; e == api.OK {
			good[k.Kind*100+min(len(want), 9)]++
		}
	}
	for _, e := range []api.Errno{api.OK, api.ErrArg, api.ErrLong, api.ErrMany, api.ErrKind, api.ErrRange, api.ErrType, api.ErrOver} {
		if seen[e] < 50 {
			t.Errorf("only %d have the error %d", seen[e], e)
		}
	}
	for _, k := range []struct{ kind, made int }{{api.NodeMap, 1}, {api.NodeFilter, 0}, {api.NodeFilter, 1}, {api.NodeProject, 1}, {api.NodeConcat, 1}, {api.NodeNegate, 1},
		{api.NodeBucket, 0}, {api.NodeBucket, 1}, {api.NodeBucket, 2}, {api.NodeBucket, 3}, {api.NodeBucket, 9}} {
		if good[k.kind*100+k.made] < 50 {
			t.Errorf("only %d of the kind %d make %d", good[k.kind*100+k.made], k.kind, k.made)
		}
	}
}

// atOnce is what deno.Node does with a change's row by itself, as changes.
func atOnce(k api.Node, u api.Up) ([]api.Up, api.Errno) {
	there, e := deno.Node(k, [][]api.Count{{{Row: u.Row, Diff: u.Diff}}})
	var made []api.Up
	for _, x := range there {
		made = append(made, api.Up{Row: x.Row, Time: u.Time, Diff: x.Diff})
	}
	return made, e
}

func TestIsWhatDenoDoes(t *testing.T) { // P20.1: what deno.Node does with the row by itself, windows in their order
	x := chance(2018)
	for round := range 20000 {
		kinds := x.kinds(4)
		k := x.node(kinds, round%3 == 0).Node
		u := x.change(kinds, 8)
		if u.Diff == 0 {
			continue // of those deno.Node makes nothing
		}
		want, e := atOnce(k, u)
		if holdDo(t, "drawn", k, u, want, e); t.Failed() {
			return
		}
	}
	for _, k := range allDone() {
		u := api.Up{Row: k.row, Time: at(1, 2), Diff: 3}
		want, e := atOnce(k.node, u)
		holdDo(t, k.name, k.node, u, want, e)
	}
	for _, k := range append(rowFaults(), orderFaults()...) {
		if linear.Is(k.node.Kind) {
			want, e := atOnce(k.node, k.change(at(1, 2)))
			holdDo(t, k.name, k.node, k.change(at(1, 2)), want, e)
		}
	}
}

// each is Do of each, one behind the other, up to the first error.
func each(k api.Node, l []api.Up) ([]api.Up, api.Errno) {
	var made []api.Up
	for _, u := range l {
		some, e := linear.Do(k, u)
		if e != api.OK {
			return nil, e
		}
		made = append(made, some...)
	}
	return made, api.OK
}

// changes are so many at most, now and then one several times, or one with rows of other kinds.
func (x *chance) changes(kinds []int, most, one int, spoilt bool) []api.Up {
	var l []api.Up
	for range x.below(most + 1) {
		u := x.change(kinds, one)
		switch {
		case len(l) > 0 && x.below(4) == 0:
			u = l[x.below(len(l))]
		case len(l) > 0 && x.below(6) == 0:
			u = l[x.below(len(l))]
			u.Diff = min(0-u.Diff, high)
		case spoilt && x.below(5) == 0:
			u = x.change(x.kinds(4), one)
		}
		l = append(l, u)
	}
	return l
}

func TestAllIsDoOfEach(t *testing.T) { // P20.1: lists drawn at random, good and spoilt
	x := chance(99)
	seen := map[api.Errno]int{}
	for round := range 20000 {
		kinds := x.kinds(4)
		k := x.node(kinds, round%6 == 0)
		if round%9 == 0 {
			x.spoil(&k)
		}
		l := x.changes(kinds, 9, 20, round%2 == 0)
		want, e := each(k.Node, l)
		if holdAll(t, "drawn", k.Node, l, want, e); t.Failed() {
			return
		}
		seen[e]++
	}
	for _, e := range []api.Errno{api.OK, api.ErrArg, api.ErrLong, api.ErrMany, api.ErrKind, api.ErrRange, api.ErrType, api.ErrOver} {
		if seen[e] < 50 {
			t.Errorf("only %d have the error %d", seen[e], e)
		}
	}
	if seen[api.OK] < 6000 {
		t.Errorf("only %d are good", seen[api.OK])
	}
}

func sameCounts(a, b []api.Count) bool {
	return slices.EqualFunc(a, b, func(x, y api.Count) bool { return row.Same(x.Row, y.Row) && x.Diff == y.Diff })
}

// holdAt holds what there is of what comes against what deno.Node makes of what there is. It tells whether all goes without an error.
func holdAt(t *testing.T, k api.Node, l []api.Up, when api.Time) bool {
	t.Helper()
	made, e := linear.All(k, l)
	if e != api.OK {
		return false
	}
	got, e := zset.At(made, when)
	there, thereErr := zset.At(l, when)
	if e != api.OK || thereErr != api.OK {
		return false
	}
	want, e := deno.Node(k, [][]api.Count{there})
	if e != api.OK {
		return false
	}
	if !sameCounts(got, want) {
		t.Errorf("%+v of %v at %v: %v, want %v", k, l, when, got, want)
	}
	return true
}

// around are times ahead of, at, beside and behind those that are drawn.
func around() []api.Time {
	l := []api.Time{at(-1, -1), at(-1, 9), at(9, -1), at(0, api.MaxTime), at(api.MaxTime, 0), at(api.MaxTime, api.MaxTime), at(high, high), at(low, low)}
	for epoch := range 5 {
		for round := range 5 {
			l = append(l, at(epoch, round))
		}
	}
	return l
}

func TestWhatThereIsFollows(t *testing.T) { // P20.2: lists drawn at random, at all times around
	x := chance(202)
	held := map[int]int{}
	for round := range 6000 {
		kinds := x.kinds(3)
		k := x.node(kinds, false).Node
		// Few rows, so that many changes are of one row, and what is made of several rows is one.
		var pool []api.Up
		for range 1 + x.below(3) {
			pool = append(pool, x.change(kinds, 40))
		}
		l := x.changes(kinds, 2, 40, false)
		for range x.below(8) {
			u := pool[x.below(len(pool))]
			u.Time, u.Diff = x.time(), x.number(40+round%2*10000)
			l = append(l, u)
		}
		for _, when := range around() {
			if holdAt(t, k, l, when) && len(l) > 3 {
				held[k.Kind]++
			}
		}
		if t.Failed() {
			return
		}
	}
	for _, kind := range sixKinds() {
		if held[kind] < 1000 {
			t.Errorf("only %d of the kind %d were held", held[kind], kind)
		}
	}
}

func TestWhatThereIsByHand(t *testing.T) { // P20.2: rows that come and go, at (0, 0), (1, 0), (0, 2) and (2, 2)
	l := ups(up(r(5, 1), 0, 0, 2), up(r(5, 2), 1, 0, 3), up(r(5, 1), 0, 2, -2), up(r(6, 1), 2, 2, 7), up(r(5, 2), 2, 2, -1))
	c := func(diff int, l ...int) api.Count { return api.Count{Row: r(l...), Diff: diff} }
	for _, k := range []struct {
		name string
		node api.Node
		when api.Time
		want []api.Count
	}{
		{"project, ahead", project(0), at(-1, 5), nil},
		{"project, at the first", project(0), at(0, 0), []api.Count{c(2, 5)}},
		{"project, at the second", project(0), at(1, 1), []api.Count{c(5, 5)}},
		{"project, beside it", project(0), at(0, 2), nil},
		{"project, at both", project(0), at(1, 2), []api.Count{c(3, 5)}},
		{"project, behind", project(0), at(9, 9), []api.Count{c(2, 5), c(7, 6)}},
		{"negate, behind", negate(), at(9, 9), []api.Count{c(-2, 5, 2), c(-7, 6, 1)}},
		{"concat, beside", concat(), at(9, 1), []api.Count{c(2, 5, 1), c(3, 5, 2)}},
		{"filter, behind", filter(of(api.OpEq, col(0), number(5))), at(2, 2), []api.Count{c(2, 5, 2)}},
		{"map to one row, behind", mapped(), at(2, 2), []api.Count{c(9)}},
		{"bucket, at the second", bucket(1, 2, 1), at(1, 0), []api.Count{c(2, 5, 1, 0), c(2, 5, 1, 1), c(3, 5, 2, 1), c(3, 5, 2, 2)}},
	} {
		made, e := linear.All(k.node, l)
		if got, atErr := zset.At(made, k.when); !sameCounts(got, k.want) || e != api.OK || atErr != api.OK {
			t.Errorf("%s: %v, %d, %d, want %v", k.name, got, e, atErr, k.want)
		}
		if !holdAt(t, k.node, l, k.when) {
			t.Errorf("%s does not go without an error", k.name)
		}
	}
}

func FuzzChanges(f *testing.F) {
	for seed := range uint64(8) {
		f.Add(seed, int64(seed), int64(5), int64(2), uint8(seed))
	}
	f.Add(uint64(9), int64(low), int64(high), int64(low), uint8(15))
	f.Fuzz(func(t *testing.T, seed uint64, a, b, c int64, kind uint8) {
		x := chance(seed)
		var bytes [8]byte
		binary.LittleEndian.PutUint64(bytes[:], uint64(a))
		kinds := x.kinds(4)
		k := x.node(kinds, seed%3 == 0)
		if kind%8 == 0 {
			k.Kind, k.N, k.Size, k.Slide = int(kind/8), int(a)%4, int(b), int(c)
		}
		l := x.changes(kinds, 6, 20, seed%2 == 0)
		l = append(l, up(v(n(int(a)), s(string(bytes[:])), n(int(b))), int(b), int(c), int(c)))
		for _, u := range l {
			want, e := askedDo(k, u)
			holdDo(t, "fuzz", k.Node, u, want, e)
		}
		want, e := each(k.Node, l)
		holdAll(t, "fuzz", k.Node, l, want, e)
		for _, when := range []api.Time{x.time(), at(int(b), int(c)), at(high, high)} {
			holdAt(t, k.Node, l, when)
		}
	})
}

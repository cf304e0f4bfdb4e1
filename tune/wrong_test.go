package tune_test

import (
	"fmt"
	"slices"
	"strings"
	"testing"

	"runnel/api"
	"runnel/plan"
	"runnel/tune"
)

// wrongPlan is a plan that plan.Check refuses, with its error.
type wrongPlan struct {
	p    api.Plan
	want api.Errno
}

// wrongPlans are such plans, by the names of what is wrong.
func wrongPlans() map[string]wrongPlan {
	in, two, strs := input(num), input(num, num), input(text)
	return map[string]wrongPlan{
		"nothing at all":            {api.Plan{}, api.ErrArg},
		"65 nodes":                  {planOf(many(65, in)...), api.ErrMany},
		"9 outs":                    {outsAre(planOf(in), make([]int, 9)...), api.ErrMany},
		"no node":                   {api.Plan{Outs: []int{0}, Room: 1}, api.ErrArg},
		"no out":                    {outsAre(planOf(in)), api.ErrArg},
		"no room":                   {roomIs(planOf(in), 0), api.ErrArg},
		"room below 0":              {roomIs(planOf(in), -1), api.ErrArg},
		"too much room":             {roomIs(planOf(in), api.MaxRoom+1), api.ErrArg},
		"an out that is none":       {outsAre(planOf(in), 1), api.ErrRange},
		"an out below 0":            {outsAre(planOf(in), 0, -1), api.ErrRange},
		"no such kind":              {planOf(in, api.Node{Kind: api.Nodes, Ins: []int{0}}), api.ErrKind},
		"a kind below 0":            {planOf(in, api.Node{Kind: low, Ins: []int{0}}), api.ErrKind},
		"an input with an in":       {planOf(in, api.Node{Ins: []int{0}}), api.ErrArg},
		"a map without":             {planOf(in, api.Node{Kind: api.NodeMap, Exprs: [][]api.Term{of(col(0))}}), api.ErrArg},
		"a concat without":          {planOf(in, concat()), api.ErrArg},
		"a concat of 9":             {planOf(in, concat(make([]int, 9)...)), api.ErrArg},
		"a join of one":             {planOf(in, api.Node{Kind: api.NodeJoin, Ins: []int{0}}), api.ErrArg},
		"a join of three":           {planOf(in, api.Node{Kind: api.NodeJoin, Ins: []int{0, 0, 0}}), api.ErrArg},
		"a count of two":            {planOf(in, api.Node{Kind: api.NodeCount, Ins: []int{0, 0}}), api.ErrArg},
		"an in that is none":        {planOf(in, negate(2)), api.ErrRange},
		"an in below 0":             {planOf(in, concat(0, -1)), api.ErrRange},
		"its own in":                {planOf(in, negate(1)), api.ErrLoop},
		"two that feed one another": {planOf(in, concat(0, 2), negate(1)), api.ErrLoop},
		"17 kinds":                  {planOf(input(make([]int, 17)...)), api.ErrMany},
		"a column of no kind":       {planOf(input(num, 2)), api.ErrKind},
		"a column of a kind below":  {planOf(input(num, -1)), api.ErrKind},
		"a map of no expression":    {planOf(in, mapped(0)), api.ErrArg},
		"a map of no step":          {planOf(in, mapped(0, nil)), api.ErrArg},
		"a map of 17":               {planOf(in, mapped(0, many(17, of(col(0)))...)), api.ErrMany},
		"a map of too many steps":   {planOf(in, mapped(0, append(of(col(0)), many(64, op(api.OpNeg))...))), api.ErrMany},
		"a map of no column":        {planOf(in, mapped(0, of(col(1)))), api.ErrRange},
		"a map of a column below 0": {planOf(in, mapped(0, of(col(-1)))), api.ErrRange},
		"a map of no such step":     {planOf(in, mapped(0, of(col(0), op(api.Ops)))), api.ErrKind},
		"a map that lacks a value":  {planOf(in, mapped(0, of(col(0), op(api.OpAdd)))), api.ErrForm},
		"a map of another kind":     {planOf(strs, mapped(0, of(col(0), op(api.OpNeg)))), api.ErrType},
		"a map of a text too long":  {planOf(in, mapped(0, of(quoted(strings.Repeat("a", 4097))))), api.ErrLong},
		"a filter of none":          {planOf(in, filter(0)), api.ErrArg},
		"a filter of two":           {planOf(in, filter(0, of(col(0)), of(col(0)))), api.ErrArg},
		"a filter of a text":        {planOf(strs, filter(0, of(col(0)))), api.ErrType},
		"a project of no column":    {planOf(in, project(0, 0, 1)), api.ErrRange},
		"a project of 17":           {planOf(in, project(0, make([]int, 17)...)), api.ErrMany},
		"a concat of other kinds":   {planOf(in, strs, concat(0, 1)), api.ErrType},
		"a bucket of no column":     {planOf(in, bucket(0, 1, 1, 1)), api.ErrRange},
		"a bucket of a text":        {planOf(strs, bucket(0, 0, 1, 1)), api.ErrType},
		"a bucket without a slide":  {planOf(in, bucket(0, 0, 1, 0)), api.ErrArg},
		"a bucket of 65 windows":    {planOf(in, bucket(0, 0, 65, 1)), api.ErrMany},
		"a bucket of 16 columns":    {planOf(input(make([]int, 16)...), bucket(0, 0, 1, 1)), api.ErrMany},
		"an arrangement's key":      {planOf(in, keyed(api.NodeArrange, 0, 2, 0)), api.ErrRange},
		"a count's key":             {planOf(in, keyed(api.NodeCount, 0, -1, 0)), api.ErrRange},
		"a count of 16 columns":     {planOf(input(make([]int, 16)...), keyed(api.NodeCount, 0, 16, 0)), api.ErrMany},
		"a sum of a text":           {planOf(strs, keyed(api.NodeSum, 0, 0, 0)), api.ErrType},
		"a top of none":             {planOf(in, keyed(api.NodeTop, 0, 0, 0)), api.ErrArg},
		"a join's key":              {planOf(in, two, joins(0, 1, 2)), api.ErrRange},
		"a join of other kinds":     {planOf(in, strs, joins(0, 1, 1)), api.ErrType},
		"a join of 17 columns":      {planOf(input(make([]int, 9)...), input(make([]int, 8)...), joins(0, 1, 0)), api.ErrMany},
	}
}

func TestWrongPlans(t *testing.T) { // P31.1: Tune tells plan.Check's error
	seen := map[api.Errno]int{}
	for name, c := range wrongPlans() {
		if e, _ := plan.Check(c.p); e != c.want {
			t.Fatalf("%s: Check = %d, want %d", name, int(e), int(c.want))
		}
		holdRefused(t, name, c.p, c.want)
		seen[c.want]++
	}
	for _, e := range []api.Errno{api.ErrArg, api.ErrMany, api.ErrKind, api.ErrRange, api.ErrLoop, api.ErrLong, api.ErrForm, api.ErrType} {
		if seen[e] == 0 {
			t.Errorf("no plan is refused by %d", int(e))
		}
	}
}

func TestFaultsBehindWork(t *testing.T) { // P31.1: plan.Check's error, also where much is to be done, or the fault leads nowhere
	work := parsed("input int / negate 0 / negate 1 / concat 2 / project 3 0 / out 4")
	with := func(n api.Node) api.Plan {
		p := clone(work)
		p.Nodes = append(p.Nodes, n)
		return p
	}
	holdRefused(t, "no room", roomIs(work, 0), api.ErrArg)
	holdRefused(t, "no out", outsAre(work), api.ErrArg)
	holdRefused(t, "an out that is none", outsAre(work, 0, 5), api.ErrRange)
	holdRefused(t, "9 outs", outsAre(work, make([]int, 9)...), api.ErrMany)
	holdRefused(t, "no such kind", with(api.Node{Kind: api.Nodes, Ins: []int{0}}), api.ErrKind)
	holdRefused(t, "a kind below 0", with(api.Node{Kind: -1, Ins: []int{0}}), api.ErrKind)
	holdRefused(t, "its own in", with(negate(5)), api.ErrLoop)
	holdRefused(t, "an in that is none", with(negate(6)), api.ErrRange)
	holdRefused(t, "a negate of two", with(api.Node{Kind: api.NodeNegate, Ins: []int{1, 1}}), api.ErrArg)
	holdRefused(t, "a filter of two, of which one takes all", with(filter(0, of(number(1)), of(col(0)))), api.ErrArg)
	holdRefused(t, "a filter of a text", with(filter(0, of(quoted("1")))), api.ErrType)
	holdRefused(t, "a filter of two values", with(filter(0, of(number(1), number(1)))), api.ErrForm)
	holdRefused(t, "no column", with(mapped(0, of(col(2)))), api.ErrRange)
	holdRefused(t, "a text too long", with(mapped(0, of(quoted(strings.Repeat("a", 4097))))), api.ErrLong)
	holdRefused(t, "a project of no column", with(project(0, 0, 1)), api.ErrRange)
	holdRefused(t, "a project of a column below 0", with(project(0, -1)), api.ErrRange)
	holdRefused(t, "a concat of 9", with(concat(make([]int, 9)...)), api.ErrArg)
	holdRefused(t, "a concat of none", with(concat()), api.ErrArg)
	holdRefused(t, "two faults", with(api.Node{Kind: api.NodeMap, Ins: []int{7}}), api.ErrRange)
	at := parsed("input int / negate 0 / negate 1 / out 2")
	for room := -1; room <= api.MaxRoom+1; room += api.MaxRoom + 1 {
		if room < 1 || room > api.MaxRoom {
			holdRefused(t, fmt.Sprint("room ", room), roomIs(at, room), api.ErrArg)
		}
	}
}

func TestFuseOfWrongColumns(t *testing.T) { // P31.2: below 0, at len(l), beyond it; in the first and in the last of m
	l := exprs("c0 2 mul | c1 | 7")
	for _, x := range []int{-1, low, 3, 4, high} {
		holdFused(t, fmt.Sprint("column ", x), l, [][]api.Term{of(col(x))}, nil, false)
		holdFused(t, fmt.Sprint("column ", x, " in the first"), l, [][]api.Term{of(col(x)), of(col(0))}, nil, false)
		holdFused(t, fmt.Sprint("column ", x, " in the last"), l, [][]api.Term{of(col(0)), of(col(1)), of(number(2), col(x), op(api.OpAdd))}, nil, false)
		holdFused(t, fmt.Sprint("column ", x, " of no l"), nil, [][]api.Term{of(col(x))}, nil, false)
		holdFused(t, fmt.Sprint("column ", x, " behind what is long"), l, [][]api.Term{append(many(64, op(api.OpNot)), col(x))}, nil, false)
		beside := of(api.Term{Op: api.OpInt, Int: x}, api.Term{Op: api.OpNeg, Int: x}, api.Term{Op: api.OpStr, Int: x})
		holdFused(t, fmt.Sprint(x, " beside other steps"), l, [][]api.Term{beside}, [][]api.Term{beside}, true)
	}
	for x := range 3 {
		holdFused(t, fmt.Sprint("column ", x), l, [][]api.Term{of(col(x))}, l[x:x+1], true)
	}
	holdFused(t, "no l", nil, exprs("c0"), nil, false)
	holdFused(t, "an empty l", [][]api.Term{}, exprs("3 | c0"), nil, false)
}

func TestFuseOfWrongSteps(t *testing.T) { // P31.2: expressions of no step, and such as expr.Type refuses: whether they may be is not asked
	none := [][]api.Term{nil}
	holdFused(t, "of no step", none, exprs("c0"), none, true)
	holdFused(t, "a m of no step", exprs("3"), [][]api.Term{{}, of(col(0))}, [][]api.Term{nil, of(number(3))}, true)
	holdFused(t, "both of no step", none, none, none, true)
	holdFused(t, "of no step, often", none, [][]api.Term{many(1000, col(0))}, none, true)
	holdFused(t, "of no step, and one", none, [][]api.Term{append(many(1000, col(0)), number(1))}, exprs("1"), true)
	holdFused(t, "steps that lack values", exprs("add"), exprs("c0 c0 if | add"), exprs("add add if | add"), true)
	holdFused(t, "steps that leave two", exprs("1 2"), exprs("c0 c0 add"), exprs("1 2 1 2 add"), true)
	holdFused(t, "steps of another kind", exprs("'a"), exprs("c0 neg | c0 not len"), exprs("'a neg | 'a not len"), true)
	strange := [][]api.Term{of(op(api.Ops), op(-1), op(low), op(high), api.Term{Op: 99, Int: 7, Str: "x"})}
	holdFused(t, "no such steps", exprs("5"), strange, strange, true)
	holdFused(t, "no such steps in l", strange, exprs("c0"), strange, true)
	for _, none := range []int{-1, api.Ops, low, high} { // it neither takes values nor lays one
		for high := 15; high <= 17; high++ {
			m := [][]api.Term{append(many(high, number(1)), many(20, op(none))...)}
			holdFusedIf(t, fmt.Sprint(high, " values and no such steps"), exprs("5"), m, m, high <= 16)
			m = [][]api.Term{slices.Concat(many(9, number(1)), many(20, op(none)), many(high-9, number(1)))}
			holdFusedIf(t, fmt.Sprint(high, " values around no such steps"), exprs("5"), m, m, high <= 16)
		}
	}
	long := [][]api.Term{of(quoted(strings.Repeat("a", 10000)))}
	holdFused(t, "a text that is too long", long, exprs("c0"), long, true)
	holdFused(t, "lacking values, then many", exprs("5"), [][]api.Term{append(many(20, op(api.OpAdd)), many(15, number(1))...)}, [][]api.Term{append(many(20, op(api.OpAdd)), many(15, number(1))...)}, true)
	holdFused(t, "lacking values, then too many", exprs("5"), [][]api.Term{append(many(20, op(api.OpAdd)), many(16, number(1))...)}, nil, false)
	if l, ok := tune.Fuse([][]api.Term{many(100000, number(1))}, [][]api.Term{many(100000, col(0))}); ok || len(l) > 0 {
		t.Errorf("very many of very many: %s, %v", brief(l), ok)
	}
	holdFused(t, "more than 16 expressions", exprs("4"), many(40, of(col(0))), many(40, of(number(4))), true)
}

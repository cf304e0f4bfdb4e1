package words_test

import (
	"slices"
	"strings"
	"testing"

	"runnel/api"
	"runnel/plan"
	"runnel/words"
)

// wrongPlan is a plan that plan.Check refuses, with its error.
type wrongPlan struct {
	p    api.Plan
	want api.Errno
}

// wrongPlans are such plans, by the names of what is wrong.
func wrongPlans() map[string]wrongPlan {
	in, two, strs := input(num), input(num, num), input(text)
	return map[string]wrongPlan{
		"nothing at all":            {api.Plan{}, api.ErrArg},
		"65 nodes":                  {planOf(many(65, in)...), api.ErrMany},
		"9 outs":                    {outsAre(planOf(in), make([]int, 9)...), api.ErrMany},
		"no node":                   {api.Plan{Outs: []int{0}, Room: 1}, api.ErrArg},
		"no out":                    {outsAre(planOf(in)), api.ErrArg},
		"no room":                   {roomIs(planOf(in), 0), api.ErrArg},
		"room below 0":              {roomIs(planOf(in), -1), api.ErrArg},
		"too much room":             {roomIs(planOf(in), api.MaxRoom+1), api.ErrArg},
		"an out that is none":       {outsAre(planOf(in), 1), api.ErrRange},
		"an out below 0":            {outsAre(planOf(in), 0, -1), api.ErrRange},
		"no such kind":              {planOf(in, api.Node{Kind: api.Nodes, Ins: []int{0}}), api.ErrKind},
		"a kind below 0":            {planOf(in, api.Node{Kind: low, Ins: []int{0}}), api.ErrKind},
		"an input with an in":       {planOf(in, api.Node{Ins: []int{0}}), api.ErrArg},
		"a map without":             {planOf(in, api.Node{Kind: api.NodeMap, Exprs: [][]api.Term{of(col(0))}}), api.ErrArg},
		"a concat without":          {planOf(in, concat()), api.ErrArg},
		"a concat of 9":             {planOf(in, concat(make([]int, 9)...)), api.ErrArg},
		"a join of one":             {planOf(in, api.Node{Kind: api.NodeJoin, Ins: []int{0}}), api.ErrArg},
		"a join of three":           {planOf(in, api.Node{Kind: api.NodeJoin, Ins: []int{0, 0, 0}}), api.ErrArg},
		"a count of two":            {planOf(in, api.Node{Kind: api.NodeCount, Ins: []int{0, 0}}), api.ErrArg},
		"an in that is none":        {planOf(in, negate(2)), api.ErrRange},
		"an in below 0":             {planOf(in, concat(0, -1)), api.ErrRange},
		"its own in":                {planOf(in, negate(1)), api.ErrLoop},
		"two that feed one another": {planOf(in, concat(0, 2), negate(1)), api.ErrLoop},
		"17 kinds":                  {planOf(input(make([]int, 17)...)), api.ErrMany},
		"a column of no kind":       {planOf(input(num, 2)), api.ErrKind},
		"a column of a kind below":  {planOf(input(num, -1)), api.ErrKind},
		"a map of no expression":    {planOf(in, mapped(0)), api.ErrArg},
		"a map of no step":          {planOf(in, mapped(0, nil)), api.ErrArg},
		"a map of 17":               {planOf(in, mapped(0, many(17, of(col(0)))...)), api.ErrMany},
		"a map of too many steps":   {planOf(in, mapped(0, append(of(col(0)), many(64, op(api.OpNeg))...))), api.ErrMany},
		"a map of no column":        {planOf(in, mapped(0, of(col(1)))), api.ErrRange},
		"a map of a column below 0": {planOf(in, mapped(0, of(col(-1)))), api.ErrRange},
		"a map of no such step":     {planOf(in, mapped(0, of(col(0), op(api.Ops)))), api.ErrKind},
		"a map that lacks a value":  {planOf(in, mapped(0, of(col(0), op(api.OpAdd)))), api.ErrForm},
		"a map of another kind":     {planOf(strs, mapped(0, of(col(0), op(api.OpNeg)))), api.ErrType},
		"a map of a text too long":  {planOf(in, mapped(0, of(quoted(longText(4097))))), api.ErrLong},
		"a filter of none":          {planOf(in, filter(0)), api.ErrArg},
		"a filter of two":           {planOf(in, filter(0, of(col(0)), of(col(0)))), api.ErrArg},
		"a filter of a text":        {planOf(strs, filter(0, of(col(0)))), api.ErrType},
		"a project of no column":    {planOf(in, project(0, 0, 1)), api.ErrRange},
		"a project of 17":           {planOf(in, project(0, make([]int, 17)...)), api.ErrMany},
		"a concat of other kinds":   {planOf(in, strs, concat(0, 1)), api.ErrType},
		"a bucket of no column":     {planOf(in, bucket(0, 1, 1, 1)), api.ErrRange},
		"a bucket of a text":        {planOf(strs, bucket(0, 0, 1, 1)), api.ErrType},
		"a bucket without a slide":  {planOf(in, bucket(0, 0, 1, 0)), api.ErrArg},
		"a bucket of 65 windows":    {planOf(in, bucket(0, 0, 65, 1)), api.ErrMany},
		"a bucket of 16 columns":    {planOf(input(make([]int, 16)...), bucket(0, 0, 1, 1)), api.ErrMany},
		"an arrangement's key":      {planOf(in, keyed(api.NodeArrange, 0, 2, 0)), api.ErrRange},
		"a count's key":             {planOf(in, keyed(api.NodeCount, 0, -1, 0)), api.ErrRange},
		"a count of 16 columns":     {planOf(input(make([]int, 16)...), keyed(api.NodeCount, 0, 16, 0)), api.ErrMany},
		"a sum of a text":           {planOf(strs, keyed(api.NodeSum, 0, 0, 0)), api.ErrType},
		"a top of none":             {planOf(in, keyed(api.NodeTop, 0, 0, 0)), api.ErrArg},
		"a join's key":              {planOf(in, two, joins(0, 1, 2)), api.ErrRange},
		"a join of other kinds":     {planOf(in, strs, joins(0, 1, 1)), api.ErrType},
		"a join of 17 columns":      {planOf(input(make([]int, 9)...), input(make([]int, 8)...), joins(0, 1, 0)), api.ErrMany},
	}
}

func TestWrongPlans(t *testing.T) { // P30.3: Print tells plan.Check's error
	seen := map[api.Errno]int{}
	for name, c := range wrongPlans() {
		if e, _ := plan.Check(c.p); e != c.want {
			t.Fatalf("%s: Check = %d, want %d", name, int(e), int(c.want))
		}
		holdRefused(t, name, c.p, c.want)
		seen[c.want]++
	}
	for _, e := range []api.Errno{api.ErrArg, api.ErrMany, api.ErrKind, api.ErrRange, api.ErrLoop, api.ErrLong, api.ErrForm, api.ErrType} {
		if seen[e] == 0 {
			t.Errorf("no plan is refused by %d", int(e))
		}
	}
}

func TestWrongPlansThatAreTooLong(t *testing.T) { // P30.3: plan.Check's error is told ahead of ErrLong
	long := sized(maxBytes + 1)
	holdRefused(t, "too long", long, api.ErrLong)
	with := func(n api.Node) api.Plan {
		p := clone(long)
		p.Nodes = append(p.Nodes, n)
		return p
	}
	holdRefused(t, "no room", roomIs(long, 0), api.ErrArg)
	holdRefused(t, "no out", outsAre(long), api.ErrArg)
	holdRefused(t, "an out that is none", outsAre(long, 0, 64), api.ErrRange)
	holdRefused(t, "9 outs", outsAre(long, make([]int, 9)...), api.ErrMany)
	holdRefused(t, "no such kind", with(api.Node{Kind: api.Nodes, Ins: []int{0}}), api.ErrKind)
	holdRefused(t, "its own in", with(negate(len(long.Nodes))), api.ErrLoop)
	holdRefused(t, "no column", with(mapped(0, of(col(2)))), api.ErrRange)
	holdRefused(t, "a text too long", with(mapped(0, of(quoted(longText(4097))))), api.ErrLong)
	holdRefused(t, "a filter of a text", with(filter(0, of(col(1)))), api.ErrType)
	holdRefused(t, "a value that lacks", with(filter(0, of(op(api.OpNeg)))), api.ErrForm)
}

func TestWrongTexts(t *testing.T) { // P30.3: ErrForm, and its place, which is where the "@" stands
	for _, s := range []string{
		// texts that end within a line
		"@", "@roo", "room@", "room @", "room 5@", "room 5 @", "room @05", "room 5 @6", "room @-", "room @x", "room 5\nout@", "room 5\n@ou", "room 5\nout @", "room 5\nout 0@",
		"room 5\nout 0\n@o", "room 5\nout 12\nout 1@",
		"room 5\ncount 0@", "room 5\ncount 0 1@", "room 5\ncount 0 @x", "room 5\ncount 0 1 @2", "room 5\ninput@", "room 5\ninput int@", "room 5\ninput @in", "room 5\nmap 0 [@",
		"room 5\nmap 0 [ @", "room 5\nmap 0 [ 1@", "room 5\nmap 0 [ 1 ]@",
		"room 5\nmap 0 [ @ad", "room 5\nmap 0 [ @c", "room 5\nmap 0 [ @'%2", "room 5\nmap 0 [ '@", "room 5\nmap 0 [ @ma", "room 5\nmap 0 [ max@", "room 5\nfilter 0@",
		"room 5\nfilter 0 @]",
		// the first line
		"@\n", "@\nroom 5\n", "@ room 5\n", "@  \n", "room@\n", "room @\n", "room @ 5\n", "room 5 @\n", "room 5 @ \n", "room 5 @6\n", "room 5 @room 5\n", "@rooms 5\n",
		"@Room 5\n", "@ROOM 5\n", "@5\n", "@input\nroom 5\n", "@out 0\nroom 5\n", "@room\t5\n", "room @\t5\n", "room @5\t\n",
		"room @5\r\n", "@\xef\xbb\xbfroom 5\n", "@\rroom 5\n", "@'room 5\n", "@room\x005\n",
		// numbers
		"room @05\n", "room @00\n", "room @+5\n", "room @-0\n", "room @-\n", "room @--1\n", "room @-05\n", "room @+\n", "room @1-\n", "room @5-1\n", "room @0x5\n",
		"room @1e3\n", "room @1_0\n", "room @5.0\n", "room @5,\n", "room @\xd9\xa5\n", "room @9223372036854775808\n", "room @-9223372036854775809\n",
		"room @18446744073709551621\n", "room @-18446744073709551611\n", "room @100000000000000000000000000000000000000000\n",
		"room @-100000000000000000000000000000000000000000\n", "room @five\n", "room @c5\n", "room @'5\n", "room @int\n", "room @[\n",
		// lines that are none
		"room 5\n@\n", "room 5\n@\nout 0\n", "room 5\n@ out 0\n", "room 5\n@ \n", "room 5\n@room 5\n", "room 5\n@x\n", "room 5\n@Map 0\n", "room 5\n@maps 0\n",
		"room 5\n@ma 0\n", "room 5\n@15 0\n", "room 5\n@outs 0\n", "room 5\n@int\n", "room 5\n@add\n", "room 5\n@?\n", "room 5\n@[ 1 ]\n", "room 5\n@input\tint\n",
		"room 5\n@\tinput\n", "room 5\n@input\r\n", "room 5\nout @0\r\n",
		"room 5\nout 0\n@\n", "room 5\nout 0\n@ ", "room 5\nout 0\n@input\n", "room 5\ninput\nout 0\n@negate 0\nout 0\n", "room 5\ninput\n@room 5\nout 0\n",
		"room 5\nout 0\n@room 5\n", "room 5\nout@\n", "room 5\nout @x\n", "room 5\nout 0 @1\n", "room 5\nout @[ 0 ]\n", "room 5\nout @-0\n", "room 5\nout @00\n",
		// what a kind has
		"room 5\ninput @x\n", "room 5\ninput @0\n", "room 5\ninput int @x\n", "room 5\ninput @Int\n", "room 5\ninput @ints\n", "room 5\ninput @int,str\n",
		"room 5\ninput int @\n", "room 5\ninput @ int\n", "room 5\ninput @[ int ]\n", "room 5\ninput str @0\n", "room 5\ninput @out 0\n",
		"room 5\nmap@\n", "room 5\nmap @x\n", "room 5\nmap @[ 1 ]\n", "room 5\nmap 0 @1\n", "room 5\nmap 0 @x\n", "room 5\nmap 0 @1 [ 1 ]\n", "room 5\nmap 0 @\n",
		"room 5\nmap @00 [ 1 ]\n",
		"room 5\nfilter@\n", "room 5\nfilter 0@\n", "room 5\nfilter 0 @1\n", "room 5\nfilter 0 [ 1 ] @[ 1 ]\n", "room 5\nfilter 0 [ 1 ] @1\n", "room 5\nfilter 0 [ 1 ] @\n",
		"room 5\nproject@\n", "room 5\nproject @x\n", "room 5\nproject 0 @c1\n", "room 5\nproject 0 1 @x\n", "room 5\nproject 0 @[ 1 ]\n", "room 5\nproject 0 1 @01\n",
		"room 5\nconcat@\n", "room 5\nconcat @\n", "room 5\nconcat 0 @x\n", "room 5\nconcat 0 @[\n", "room 5\nconcat 1 2 3 4 5 6 7 8 @9\n", "room 5\nconcat 1 2 3 4 5 6 7 8 @\n",
		"room 5\nnegate@\n", "room 5\nnegate 0 @1\n", "room 5\nconsolidate@\n", "room 5\nconsolidate 0 @0\n", "room 5\ndistinct@\n", "room 5\ndistinct 0 @1\n", "room 5\ndistinct @int\n",
		"room 5\nbucket@\n", "room 5\nbucket 0@\n", "room 5\nbucket 0 1@\n", "room 5\nbucket 0 1 2@\n", "room 5\nbucket 0 1 2 3 @4\n", "room 5\nbucket 0 @c1 2 3\n",
		"room 5\narrange@\n", "room 5\narrange 0@\n", "room 5\narrange 0 1 @2\n", "room 5\ncount@\n", "room 5\ncount 0@\n", "room 5\ncount 0 1 @2\n", "room 5\nmin@\n",
		"room 5\nmin 0@\n", "room 5\nmin 0 1 @2\n", "room 5\nmax@\n", "room 5\nmax 0@\n", "room 5\nmax 0 1 @2\n",
		"room 5\nsum@\n", "room 5\nsum 0@\n", "room 5\nsum 0 1@\n", "room 5\nsum 0 1 2 @3\n", "room 5\ntop@\n", "room 5\ntop 0@\n", "room 5\ntop 0 1@\n", "room 5\ntop 0 1 2 @3\n",
		"room 5\njoin@\n", "room 5\njoin 0@\n", "room 5\njoin 0 1@\n", "room 5\njoin 0 1 2 @3\n",
		// brackets
		"room 5\nmap 0 @]\n", "room 5\nmap 0 [ @]\n", "room 5\nmap 0 [ @[ 1 ] ]\n", "room 5\nmap 0 [ 1 @[ 1 ]\n", "room 5\nmap 0 [ 1 ] @]\n", "room 5\nmap 0 [ 1 ] @1\n",
		"room 5\nmap 0 [ 1@\n", "room 5\nmap 0 [@\n", "room 5\nmap 0 [ @\n", "room 5\nmap 0 @[1 ]\n", "room 5\nmap 0 [ @1]\n", "room 5\nmap 0 @[]\n", "room 5\nmap 0 @[[\n",
		"room 5\nmap 0 [ 1 ] [ @]\n", "room 5\nmap 0 [ 1 ] [@\n", "room 5\nmap 0 [ 1 @][ 1 ]\n", "room 5\nmap 0 @( 1 )\n", "room 5\nmap 0 @{ 1 }\n", "room 5\nnegate 0 @[ 1 ]\n",
		"room 5\nfilter 0 [ @]\n", "room 5\nfilter 0 [ 1@\n",
		// steps
		"room 5\nmap 0 [ @? ]\n", "room 5\nmap 0 [ @ADD ]\n", "room 5\nmap 0 [ @adds ]\n", "room 5\nmap 0 [ @x ]\n", "room 5\nmap 0 [ @ 1 ]\n", "room 5\nmap 0 [ 1 @ ]\n",
		"room 5\nmap 0 [ 1 @int ]\n", "room 5\nmap 0 [ @map ]\n", "room 5\nmap 0 [ @out ]\n", "room 5\nmap 0 [ @col ]\n", "room 5\nmap 0 [ @+ ]\n", "room 5\nmap 0 [ @\"a\" ]\n",
		"room 5\nmap 0 [ @a ]\n",
		"room 5\nmap 0 [ @c ]\n", "room 5\nmap 0 [ @c-1 ]\n", "room 5\nmap 0 [ @c-0 ]\n", "room 5\nmap 0 [ @c+1 ]\n", "room 5\nmap 0 [ @c00 ]\n", "room 5\nmap 0 [ @c01 ]\n",
		"room 5\nmap 0 [ @C0 ]\n", "room 5\nmap 0 [ @c 0 ]\n", "room 5\nmap 0 [ @cc0 ]\n", "room 5\nmap 0 [ @c0c ]\n", "room 5\nmap 0 [ @c'0 ]\n",
		"room 5\nmap 0 [ @c9223372036854775808 ]\n", "room 5\nmap 0 [ @c-9223372036854775808 ]\n", "room 5\nmap 0 [ @c100000000000000000000000000000 ]\n",
		"room 5\nmap 0 [ @00 ]\n", "room 5\nmap 0 [ @-0 ]\n", "room 5\nmap 0 [ @+1 ]\n", "room 5\nmap 0 [ @- ]\n", "room 5\nmap 0 [ @9223372036854775808 ]\n",
		"room 5\nmap 0 [ @-9223372036854775809 ]\n", "room 5\nmap 0 [ @1.5 ]\n",
		// quoted texts
		"room 5\nmap 0 [ @'% ]\n", "room 5\nmap 0 [ @'%2 ]\n", "room 5\nmap 0 [ @'%a ]\n", "room 5\nmap 0 [ @'%g0 ]\n", "room 5\nmap 0 [ @'%0g ]\n", "room 5\nmap 0 [ @'%0A ]\n",
		"room 5\nmap 0 [ @'%C3 ]\n", "room 5\nmap 0 [ @'%%25 ]\n", "room 5\nmap 0 [ @'%25% ]\n", "room 5\nmap 0 [ @'%25%2 ]\n", "room 5\nmap 0 [ @'%2a ]\n",
		"room 5\nmap 0 [ @'%41 ]\n", "room 5\nmap 0 [ @'%7e ]\n", "room 5\nmap 0 [ @'%21 ]\n", "room 5\nmap 0 [ @'%24 ]\n", "room 5\nmap 0 [ @'%26 ]\n",
		"room 5\nmap 0 [ @'%27 ]\n",
		"room 5\nmap 0 [ @'%+1 ]\n", "room 5\nmap 0 [ @'%-1 ]\n", "room 5\nmap 0 [ @'%0x ]\n", "room 5\nmap 0 [ @'%_1 ]\n", "room 5\nmap 0 [ @'a\tb ]\n",
		"room 5\nmap 0 [ @'a\x00 ]\n", "room 5\nmap 0 [ @'\x1f ]\n", "room 5\nmap 0 [ @'\x7f ]\n", "room 5\nmap 0 [ @'\xc3\xa9 ]\n", "room 5\nmap 0 [ @'a\xff ]\n",
		"room 5\nmap 0 [ @'a\r ]\n", "room 5\nmap 0 [ 'a @b' ]\n", "room 5\nmap 0 [ 'a@\nb ]\n", "room 5\nmap 0 [ ' @x' ' ]\n",
		// two faults: the first of them
		"room @05\nx\n", "room 5 @ 6 \n\n", "@out x\nroom\n", "room 5\n@x\ny\n", "room 5\nmap 0 [ @c-1 '% ]\n", "room 5\nmap 0 [ @'% ", "room 5\nout 0\n@input x",
		"room 5\ncount@\ncount", "room 5\nmap 0 [ 1@\nout\n", "room 5\nmap @x [ ]\n", "room@\nroom\n", "@x", "@ ", "room 5\ninput @x int int x",
	} {
		holdPlace(t, "a wrong text", s)
		holdAsked(t, "a wrong text", strings.Replace(s, "@", "", 1))
	}
	holdFault(t, "no bytes", "", 0)
	if p, e, at := words.Parse(nil); e != api.ErrForm || at != 0 || !alike(p, api.Plan{}) {
		t.Errorf("Parse(nil) = %s, %d at %d", brief(p), int(e), at)
	}
}

func TestTooManyThings(t *testing.T) { // P30.3: the limits, and the place of the first one too many
	for name, s := range map[string]string{
		"17 Kinds":           "room 5\ninput" + strings.Repeat(" int", 16) + " @int\n",
		"18 Kinds, one none": "room 5\ninput" + strings.Repeat(" int", 16) + " @int x\n",
		"a blank behind 16":  "room 5\ninput" + strings.Repeat(" int", 16) + " @\n",
		"17 Cols":            "room 5\nproject 3" + strings.Repeat(" 2", 16) + " @2\n",
		"17 Exprs":           "room 5\nmap 3" + strings.Repeat(" [ 2 ]", 16) + " @[ 2 ]\n",
		"65 steps":           "room 5\nmap 3 [" + strings.Repeat(" add", 64) + " @add ]\n",
		"65 numbers":         "room 5\nfilter 3 [" + strings.Repeat(" -7", 64) + " @-7 ]\n",
		"64 steps, open":     "room 5\nmap 3 [" + strings.Repeat(" add", 64) + "@\n",
		"65 steps of the 16": "room 5\nmap 3" + strings.Repeat(" [ 2 ]", 15) + " [" + strings.Repeat(" c0", 64) + " @c0 ] [ 1 ]\n",
		"9 Ins":              "room 5\nconcat" + strings.Repeat(" 0", 8) + " @0\n",
		"65 nodes":           "room 5\n" + strings.Repeat("input\n", 64) + "@input\nout 0\n",
		"65 nodes, one none": "room 5\n" + strings.Repeat("input\n", 64) + "@x\nout 0\n",
		"9 outs":             "room 5\ninput\n" + strings.Repeat("out 0\n", 8) + "@out 0\n",
		"9 outs, no number":  "room 5\ninput\n" + strings.Repeat("out 0\n", 8) + "@out",
		"9 outs of no node":  "room 5\n" + strings.Repeat("out 0\n", 8) + "@out 0\n",
		"a node behind 8":    "room 5\n" + strings.Repeat("out 0\n", 8) + "@input\n",
		"64 nodes, then":     "room 5\n" + strings.Repeat("input\n", 64) + strings.Repeat("out 3\n", 8) + "@",
	} {
		if name == "64 nodes, then" { // just so many are a text
			whole := strings.TrimSuffix(s, "@")
			holdText(t, name, whole, api.Plan{Room: 5, Nodes: many(64, input()), Outs: many(8, 3)})
			continue
		}
		holdPlace(t, name, s)
		holdAsked(t, name, strings.Replace(s, "@", "", 1))
	}
}

func TestTooManyBytes(t *testing.T) { // P30.3: ErrLong and 0, whatever they are; and as many as may be, which are no text
	whole := askedText(sized(maxBytes))
	for _, c := range []struct{ ahead, again string }{{"", "x"}, {"", " "}, {"", "\n"}, {"", "\x00"}, {"room ", "1"}, {"room 5\n", " "}, {"room 5\n", "out 0\n"}, {"room 5\nmap 0 [ ", "'"}, {"room 5\nmap 0 [", " neg"}, {"room 5\nmap 0 [ c", "7"}, {"room 5\nmap 0 [ '", "%"}, {"room 5\ninput", " int"}, {whole, "\n"}, {whole, "out 0\n"}} {
		s := c.ahead + strings.Repeat(c.again, (maxBytes+100)/len(c.again))
		holdTooLong(t, s)
		holdTooLong(t, s[:maxBytes+1])
	}
	for s, at := range map[string]int{
		strings.Repeat("x", maxBytes):                                      0,
		strings.Repeat("room 5\n", maxBytes)[:maxBytes]:                    7,
		strings.Repeat(" ", maxBytes):                                      0,
		strings.Repeat("\n", maxBytes):                                     0,
		"room " + strings.Repeat("1", maxBytes-5):                          5,
		"room " + strings.Repeat(" ", maxBytes-5):                          5,
		"room 5\n" + strings.Repeat("\n", maxBytes-7):                      7,
		"room 5\nmap 0 [ '" + strings.Repeat("x", maxBytes-16):             15,
		"room 5\nmap 0 [ '" + strings.Repeat("%", maxBytes-16):             15,
		("room 5\nmap 0 [ '" + strings.Repeat("%00", maxBytes))[:maxBytes]: 15,
		"room 5\nmap 0 [ c" + strings.Repeat("9", maxBytes-16):             15,
		("room 5\nmap 0 [" + strings.Repeat(" neg", maxBytes))[:maxBytes]:  14 + 64*4 + 1,
		("room 5\ninput" + strings.Repeat(" int", maxBytes))[:maxBytes]:    12 + 16*4 + 1,
		("room 5\n" + strings.Repeat("input\n", maxBytes))[:maxBytes]:      7 + 64*6,
		whole[:maxBytes-1] + " ":                                           maxBytes,
		whole[:maxBytes-1] + "x":                                           maxBytes - 2,
		whole[:maxBytes-1] + "0":                                           maxBytes - 2,
		strings.Replace(whole, "room 5\n", "room 05\n", 1)[:maxBytes]:      5,
		strings.Replace(whole, "\nout 0\n", "\nout 00\n", 1)[:maxBytes]:    maxBytes - 2,
		strings.Replace(whole, "input int", "input str int", 1)[:maxBytes]: maxBytes - 2,
	} {
		if len(s) != maxBytes {
			t.Fatalf("%d bytes: %s", len(s), brief([]byte(s)))
		}
		holdFault(t, "as many bytes as may be", s, at)
	}
}

func TestTextsThatAreCut(t *testing.T) { // P30.3: behind each of its bytes
	for _, s := range []string{everyKindText, "room -65\ninput\nmap 0\nfilter 0 [ c10 'a%25 cat max ma'x -12 ]\nout -1\n"} {
		for i := range s {
			holdAsked(t, "a beginning", s[:i])
			holdAsked(t, "a beginning, then a line break", s[:i]+"\n")
			holdAsked(t, "a beginning, then a blank", s[:i]+" ")
			holdAsked(t, "an end", s[i:])
		}
	}
}

func TestTextsWithOneByteElse(t *testing.T) { // P30.3: one byte more, less, or another, at each place
	every := make([]byte, 256)
	for i := range every {
		every[i] = byte(i)
	}
	for s, bytes := range map[string]string{
		everyKindText: " \n\t\r\x00-+019%'[]acnA\x7f\xff",
		"room 5\nmap 0 [ c1 '%20 -7 add ]\nout 3\n": string(every),
	} {
		for i := range len(s) + 1 {
			for _, c := range []byte(bytes) {
				holdAsked(t, "one byte more", s[:i]+string([]byte{c})+s[i:])
				if i < len(s) {
					holdAsked(t, "another byte", s[:i]+string([]byte{c})+s[i+1:])
				}
			}
			if i < len(s) {
				holdAsked(t, "one byte less", s[:i]+s[i+1:])
				holdAsked(t, "a byte twice", s[:i+1]+s[i:])
			}
		}
	}
}

// cutWords are a text's words and what stands between them, in turn.
func cutWords(s string) []string {
	var l []string
	begin := 0
	for i := range s {
		if s[i] == ' ' || s[i] == '\n' {
			l = append(l, s[begin:i], s[i:i+1])
			begin = i + 1
		}
	}
	return append(l, s[begin:])
}

func TestTextsWithOneWordElse(t *testing.T) { // P30.3: a word left out, twice, or in the place of another, at each place
	l := cutWords(everyKindText)
	others := append(strings.Fields(kindWords+" "+stepWords+" room out int str [ ] ? 0 -1 7 c0 c12 ' 'x%20 00 c-1 '% c"), "")
	for i := 0; i+1 < len(l); i += 2 {
		ahead, behind := strings.Join(l[:i], ""), strings.Join(l[i+1:], "")
		holdAsked(t, "a word left out", ahead+strings.Join(l[i+2:], ""))
		holdAsked(t, "no word", ahead+behind)
		holdAsked(t, "a word twice", ahead+l[i]+" "+l[i]+behind)
		holdAsked(t, "a word twice, on lines of their own", ahead+l[i]+"\n"+l[i]+behind)
		for _, word := range others {
			holdAsked(t, "another word", ahead+word+behind)
			holdAsked(t, "one word more", ahead+word+" "+l[i]+behind)
		}
		for j := i + 2; j+1 < len(l); j += 2 {
			swapped := slices.Clone(l)
			swapped[i], swapped[j] = l[j], l[i]
			holdAsked(t, "two words in each other's places", strings.Join(swapped, ""))
		}
	}
}

func TestTextsWithOneLineElse(t *testing.T) { // P30.3: a line left out, twice, without words, or in the place of another
	l := strings.SplitAfter(strings.TrimSuffix(everyKindText, "\n"), "\n")
	l[len(l)-1] += "\n"
	for i := range l {
		for j := range l {
			moved := slices.Insert(slices.Delete(slices.Clone(l), i, i+1), j, l[i])
			holdAsked(t, "a line elsewhere", strings.Join(moved, ""))
			holdAsked(t, "a line twice", strings.Join(slices.Insert(slices.Clone(l), j, l[i]), ""))
		}
		for _, line := range []string{"", "\n", " \n", "room 5\n", "out 0\n", "input\n", "x\n", l[i][:len(l[i])-1], " " + l[i], l[i][:len(l[i])-1] + " \n", strings.ReplaceAll(l[i], " ", "  "), strings.ReplaceAll(l[i], " ", "\t"), strings.ReplaceAll(l[i], "\n", "\r\n"), strings.ToUpper(l[i])} {
			other := slices.Clone(l)
			other[i] = line
			holdAsked(t, "another line", strings.Join(other, ""))
		}
	}
}

func TestEveryCallEnds(t *testing.T) { // the rule of ends: no call panics, whatever it is given
	odd := []int{low, -1, 0, 1, 2, 15, 16, 17, 64, high}
	for _, kind := range odd {
		for _, x := range odd {
			n := api.Node{Kind: kind, Ins: []int{x, 0}, Kinds: []int{x}, Exprs: [][]api.Term{nil, of(op(x))}, Cols: []int{x}, Key: x, N: x, Size: x, Slide: x}
			for _, p := range []api.Plan{{Nodes: []api.Node{n}}, planOf(input(num), n), planOf(input(kind, x)), roomIs(planOf(n, n, input()), x), outsAre(planOf(n), x, kind)} {
				b, e := words.Print(p)
				if want, _ := plan.Check(p); e != want || e != api.OK && len(b) > 0 {
					t.Errorf("Print(%s) = %s, %d, want %d", brief(p), brief(b), int(e), int(want))
				}
			}
			if got, want := words.Expr(of(api.Term{Op: kind, Int: x})), askedExpr(of(api.Term{Op: kind, Int: x})); got != want {
				t.Errorf("Expr of %d, %d = %q, want %q", kind, x, got, want)
			}
		}
	}
	for i := range 256 {
		one := string([]byte{byte(i)})
		holdAsked(t, "one byte", one)
		holdAsked(t, "a byte twice", one+one)
		holdAsked(t, "a byte, then a line", one+"\nroom 5\n")
		holdAsked(t, "a byte behind a line", "room 5\n"+one)
	}
}

package sheet_test

import (
	"bytes"
	"encoding/hex"
	"fmt"
	"math"
	"reflect"
	"slices"
	"strings"
	"testing"

	"runnel/api"
	"runnel/plan"
	"runnel/sheet"
)

const (
	low  = math.MinInt
	high = math.MaxInt
)

// many is so many of one thing.
func many[T any](count int, x T) []T { return slices.Repeat([]T{x}, count) }

// rising are numbers from one on.
func rising(count, from int) []int {
	var l []int
	for i := range count {
		l = append(l, from+i)
	}
	return l
}

// words are steps with these texts.
func words(l ...string) []api.Term {
	var steps []api.Term
	for _, s := range l {
		steps = append(steps, api.Term{Op: api.OpStr, Str: s})
	}
	return steps
}

// planOf is a plan whose last node is its out.
func planOf(nodes ...api.Node) api.Plan {
	return api.Plan{Nodes: nodes, Outs: []int{len(nodes) - 1}, Room: 10}
}

// isEmpty: has it nothing in any field?
func isEmpty(p api.Plan) bool { return len(p.Nodes) == 0 && len(p.Outs) == 0 && p.Room == 0 }

// fromHex is bytes that are told by hand; what stands between them is left out.
func fromHex(s string) []byte {
	b, err := hex.DecodeString(strings.Join(strings.Fields(s), ""))
	if err != nil {
		panic(err)
	}
	return b
}

// holdTold holds a plan against its bytes, both ways.
func holdTold(t *testing.T, name string, p api.Plan, want []byte) {
	t.Helper()
	if e := sheet.Check(p); e != api.OK {
		t.Errorf("%s: Check = %d", name, e)
	}
	if got, e := sheet.Encode(p); e != api.OK || !bytes.Equal(got, want) {
		t.Errorf("%s: Encode = %s, %d, want %s", name, short(got), e, short(want))
	}
	got, e := sheet.Decode(want)
	if e != api.OK || !alike(got, p) {
		t.Errorf("%s: Decode = %s, %d, want %s", name, brief(got), e, brief(p))
	}
	if !sheet.Same(got, p) || !sheet.Same(p, got) {
		t.Errorf("%s: what is decoded is not the same", name)
	}
}

// holdBad holds a plan that may not be told against its error: no bytes are told.
func holdBad(t *testing.T, name string, p api.Plan, want api.Errno) {
	t.Helper()
	if e := sheet.Check(p); e != want {
		t.Errorf("%s: Check = %d, want %d", name, e, want)
	}
	if b, e := sheet.Encode(p); e != want || len(b) != 0 {
		t.Errorf("%s: Encode = %s, %d, want nothing, %d", name, short(b), e, want)
	}
}

// holdNoForm holds bytes that are no plan's.
func holdNoForm(t *testing.T, name string, b []byte) {
	t.Helper()
	if p, e := sheet.Decode(b); e != api.ErrForm || !isEmpty(p) {
		t.Errorf("%s: Decode(%s) = %s, %d, want nothing, ErrForm", name, short(b), brief(p), e)
	}
}

// brief is a plan as a text, the beginning of it.
func brief(p api.Plan) string { return fmt.Sprintf("%.999q", fmt.Sprintf("%+v", p)) }

// short is bytes as a text, the first and the last of them.
func short(b []byte) string {
	if len(b) <= 400 {
		return hex.EncodeToString(b)
	}
	return fmt.Sprintf("%x..%x (%d)", b[:200], b[len(b)-100:], len(b))
}

func TestThePage(t *testing.T) { // P17.2: the page's example, byte by byte
	p := api.Plan{Room: 1, Outs: []int{0}, Nodes: []api.Node{{}}}
	holdTold(t, "the page's", p, []byte{0x50, 0x02, 0x01, 0x00, 0x01, 0x00, 0x00, 0x00, 0x00, 0x00, 0x00, 0x00, 0x00, 0x00})
}

func TestToldByHand(t *testing.T) { // P17.2
	every := api.Node{Kind: 1, Ins: []int{2, -3}, Kinds: []int{4}, Exprs: [][]api.Term{{{Op: 5, Int: -6, Str: "ab"}, {}}, nil, {{Str: "\xff"}}}, Cols: []int{7, 8, 9}, Key: 10, N: -11, Size: 12, Slide: 64}
	cases := []struct {
		name string
		p    api.Plan
		want string
	}{
		{"nothing at all", api.Plan{}, "50 00 00 00"},
		{"a room below 0", api.Plan{Room: -1}, "50 01 00 00"},
		{"the first byte alone is no number", api.Plan{Room: 40}, "50 50 00 00"},
		{"rooms of two bytes", api.Plan{Room: 64}, "50 8100 00 00"},
		{"the greatest room of one byte", api.Plan{Room: 63}, "50 7e 00 00"},
		{"the least room of one byte", api.Plan{Room: -64}, "50 7f 00 00"},
		{"the least room", api.Plan{Room: low}, "50 81ffffffffffffffff7f 00 00"},
		{"the greatest room", api.Plan{Room: high}, "50 81ffffffffffffffff7e 00 00"},
		{"outs", api.Plan{Outs: []int{1, -1, 300, 0}}, "50 00 04 02 01 8458 00 00"},
		{"two nodes", api.Plan{Nodes: []api.Node{{Kind: 15}, {Slide: 1}}}, "50 00 00 02 1e 00 00 00 00 00 00 00 00 00 00 00 00 00 00 00 00 02"},
		{"every field", api.Plan{Room: 3, Outs: []int{13}, Nodes: []api.Node{every}},
			"50 06 01 1a 01  02  02 04 05  01 08  03 02 0a 0b 02 6162 00 00 00 00 01 00 00 01 ff  03 0e 10 12  14 15 18 8100"},
		{"one field each", api.Plan{Nodes: []api.Node{{Ins: []int{1}}, {Kinds: []int{1}}, {Exprs: [][]api.Term{{}}}, {Exprs: [][]api.Term{{{}}}}, {Cols: []int{1}}, {Key: 1}, {N: 1}, {Size: 1}}},
			"50 00 00 08 00 01 02 00 00 00 00 00 00 00  00 00 01 02 00 00 00 00 00 00  00 00 00 01 00 00 00 00 00 00  00 00 00 01 01 00 00 00 00 00 00 00 00" +
				"  00 00 00 00 01 02 00 00 00 00  00 00 00 00 00 02 00 00 00  00 00 00 00 00 00 02 00 00  00 00 00 00 00 00 00 02 00"},
	}
	for _, c := range cases {
		holdTold(t, c.name, c.p, fromHex(c.want))
	}
}

// everyKind is a plan that may be, with a node of every kind, each with every field set.
func everyKind() api.Plan {
	p := api.Plan{Outs: []int{15, 3, 3, 0}, Room: 65536}
	for kind := range api.Nodes {
		n := api.Node{Kind: kind, Ins: []int{max(kind-1, 0)}, Kinds: []int{0, 1, 0}, Cols: []int{2, 0, 1}, Key: 1, N: 2, Size: 10 + kind, Slide: 5 + kind}
		n.Exprs = [][]api.Term{{{Op: api.OpCol, Int: kind}, {Op: api.OpStr, Int: 5, Str: fmt.Sprint("é", kind)}, {Op: api.OpCat}}, words("a", "", "\x00\xff"), {{Op: kind, Int: -kind}}}
		p.Nodes = append(p.Nodes, n)
	}
	p.Nodes[api.NodeJoin].Ins = []int{0, 14}
	p.Nodes[api.NodeConcat].Ins = []int{3, 1, 2, 3, 0, 0, 1, 2}
	return p
}

// strangePlans are plans that plan.Check refuses, and which are told all the same.
func strangePlans() map[string]api.Plan {
	spoilt := func(change func(p *api.Plan)) api.Plan {
		p := everyKind()
		change(&p)
		return p
	}
	return map[string]api.Plan{
		"no node":                    {Outs: []int{0}, Room: 1},
		"no out":                     {Nodes: []api.Node{{}}, Room: 1},
		"no room":                    spoilt(func(p *api.Plan) { p.Room = 0 }),
		"a room below 0":             spoilt(func(p *api.Plan) { p.Room = -5 }),
		"a room above":               spoilt(func(p *api.Plan) { p.Room = 65537 }),
		"a kind above":               spoilt(func(p *api.Plan) { p.Nodes[3].Kind = api.Nodes }),
		"a kind below":               spoilt(func(p *api.Plan) { p.Nodes[3].Kind = -1 }),
		"an in that is no node":      spoilt(func(p *api.Plan) { p.Nodes[3].Ins[0] = 16 }),
		"an in below 0":              spoilt(func(p *api.Plan) { p.Nodes[3].Ins[0] = -1 }),
		"an out that is no node":     spoilt(func(p *api.Plan) { p.Outs[1] = 16 }),
		"an out below 0":             spoilt(func(p *api.Plan) { p.Outs[1] = low }),
		"a node that is its own in":  spoilt(func(p *api.Plan) { p.Nodes[3].Ins[0] = 3 }),
		"a ring":                     spoilt(func(p *api.Plan) { p.Nodes[3].Ins[0] = 15 }),
		"a column's kind that is no": spoilt(func(p *api.Plan) { p.Nodes[0].Kinds[0] = 2 }),
		"steps that are none":        spoilt(func(p *api.Plan) { p.Nodes[1].Exprs[0][0].Op = -7 }),
	}
}

func TestEveryKind(t *testing.T) { // P17.2, P17.4: held against the chapter's words reckoned in another way
	p := everyKind()
	if len(p.Nodes) != 16 {
		t.Fatal("not every kind")
	}
	holdTold(t, "every kind", p, askedBytes(p))
	if again, e := sheet.Encode(p); e != api.OK || len(again) < 16*9 {
		t.Error(short(again), e)
	}
}

func TestPlansThatMayNotBe(t *testing.T) { // P17.1, P17.2: whether a plan may be is not asked here
	for name, p := range strangePlans() {
		if e, _ := plan.Check(p); e == api.OK {
			t.Errorf("%s: it may be", name)
		}
		holdTold(t, name, p, askedBytes(p))
	}
}

// edges are plans that just may be told.
func edges() map[string]api.Plan {
	long := strings.Repeat("é", api.MaxText/2)
	steps := slices.Repeat([]api.Term{{Op: api.OpInt, Int: 9}, {Op: api.OpStr, Str: "x"}}, api.MaxTerms/2)
	full := api.Node{Kind: 2, Ins: rising(8, 0), Kinds: rising(16, -8), Exprs: many(16, steps), Cols: rising(16, 100), Key: -1, N: -2, Size: -3, Slide: -4}
	return map[string]api.Plan{
		"nothing":                      {},
		"MaxNodes nodes":               planOf(many(64, api.Node{Kind: 5, Ins: []int{0}})...),
		"MaxOuts outs":                 {Nodes: []api.Node{{}}, Outs: rising(8, -3)},
		"no node, and MaxOuts outs":    {Outs: rising(8, 0)},
		"MaxIns ins":                   planOf(api.Node{Ins: rising(8, 0)}),
		"MaxCols kinds":                planOf(api.Node{Kinds: rising(16, 0)}),
		"MaxCols exprs of no step":     planOf(api.Node{Exprs: make([][]api.Term, 16)}),
		"MaxCols cols":                 planOf(api.Node{Cols: rising(16, 0)}),
		"no step":                      planOf(api.Node{Exprs: [][]api.Term{nil, {}}}),
		"MaxTerms steps":               planOf(api.Node{Exprs: [][]api.Term{steps}}),
		"a text of no byte":            planOf(api.Node{Exprs: [][]api.Term{words("")}}),
		"a text of MaxText":            planOf(api.Node{Exprs: [][]api.Term{words(long)}}),
		"bytes that are no text":       planOf(api.Node{Exprs: [][]api.Term{words("\xff\xfe\x00\x80", "\xc3")}}),
		"MaxText that are no text":     planOf(api.Node{Exprs: [][]api.Term{words(strings.Repeat("\xfe", 4096), strings.Repeat("\x00", 4096))}}),
		"texts of MaxText everywhere":  planOf(api.Node{Exprs: many(16, words(many(8, long)...))}, api.Node{Exprs: many(2, words(long))}),
		"texts that are told as two":   planOf(api.Node{Exprs: [][]api.Term{words(strings.Repeat("a", 127), strings.Repeat("b", 128))}}),
		"a node full of all":           planOf(full),
		"as many of all as there may ": {Nodes: many(64, full), Outs: rising(8, 60), Room: 65536},
	}
}

func TestEdges(t *testing.T) { // P17.1, P17.2: each limit is itself allowed
	for name, p := range edges() {
		holdTold(t, name, p, askedBytes(p))
	}
}

func TestLeastAndGreatestNumbers(t *testing.T) { // P17.2: in each field that is a number
	for _, x := range []int{low, low + 1, -1 << 62, -65, -64, -1, 0, 63, 64, 1 << 13, 1<<62 - 1, 1 << 62, high - 1, high} {
		p := everyKind()
		for i, place := range numbersOf(&p) {
			was := *place
			*place = x
			if b, e := sheet.Encode(p); e != api.OK || !bytes.Equal(b, askedBytes(p)) {
				t.Fatalf("%d at the number %d: %s, %d", x, i, short(b), e)
			} else if q, e := sheet.Decode(b); e != api.OK || !alike(p, q) {
				t.Fatalf("%d at the number %d: %s, %d", x, i, brief(q), e)
			}
			*place = was
		}
	}
}

// overs are nodes each of which has one thing more than may be.
func overs() map[string]api.Node {
	return map[string]api.Node{
		"ins":                    {Ins: rising(9, 0)},
		"kinds":                  {Kinds: rising(17, 0)},
		"exprs":                  {Exprs: make([][]api.Term, 17)},
		"cols":                   {Cols: rising(17, 0)},
		"steps":                  {Exprs: [][]api.Term{make([]api.Term, 65)}},
		"steps of the last expr": {Exprs: append(make([][]api.Term, 15), make([]api.Term, 65))},
		"very many ins":          {Ins: make([]int, 100000)},
		"very many exprs":        {Exprs: make([][]api.Term, 100000)},
		"very many steps":        {Exprs: [][]api.Term{words("a"), make([]api.Term, 100000), nil}},
	}
}

// longs are nodes each of which has a text that is longer than may be.
func longs() map[string]api.Node {
	long := strings.Repeat("a", 4097)
	return map[string]api.Node{
		"the first step":             {Exprs: [][]api.Term{words(long)}},
		"the last step":              {Exprs: [][]api.Term{append(words(many(63, "a")...), api.Term{Op: 77, Str: long})}},
		"the last expr":              {Exprs: append(make([][]api.Term, 15), words("a", long))},
		"a step that needs none":     {Exprs: [][]api.Term{{{Op: api.OpAdd, Str: long}}}},
		"fewer letters than MaxText": {Exprs: [][]api.Term{words(strings.Repeat("é", 2049))}},
		"a very long one":            {Exprs: [][]api.Term{words(strings.Repeat("a", 1000000))}},
	}
}

func TestTooMany(t *testing.T) { // P17.1, P17.2: one more of each
	holdBad(t, "65 nodes", planOf(make([]api.Node, 65)...), api.ErrMany)
	holdBad(t, "very many nodes", planOf(make([]api.Node, 100000)...), api.ErrMany)
	holdBad(t, "9 outs", api.Plan{Nodes: []api.Node{{}}, Outs: make([]int, 9)}, api.ErrMany)
	holdBad(t, "9 outs and no node", api.Plan{Outs: make([]int, 9)}, api.ErrMany)
	for name, n := range overs() {
		holdBad(t, name, planOf(n), api.ErrMany)
		holdBad(t, name+", of the last node", planOf(append(make([]api.Node, 63), n)...), api.ErrMany)
		holdBad(t, name+", between others", planOf(everyKind().Nodes[3], n, everyKind().Nodes[4]), api.ErrMany)
	}
}

func TestTooLong(t *testing.T) { // P17.1, P17.2: one byte more
	for name, n := range longs() {
		holdBad(t, name, planOf(n), api.ErrLong)
		holdBad(t, name+", of the last node", planOf(append(make([]api.Node, 63), n)...), api.ErrLong)
		holdBad(t, name+", between others", planOf(everyKind().Nodes[3], n, everyKind().Nodes[4]), api.ErrLong)
	}
}

func TestTheFirstFault(t *testing.T) { // P17.1: of the plan ahead of nodes, the first node's ahead of a later one's, in a node ErrMany ahead of ErrLong
	for name, long := range longs() {
		holdBad(t, name+", and 9 outs", api.Plan{Nodes: []api.Node{long}, Outs: make([]int, 9)}, api.ErrMany)
		holdBad(t, name+", and 65 nodes", planOf(append(make([]api.Node, 64), long)...), api.ErrMany)
		holdBad(t, name+" first, and 65 nodes", planOf(append([]api.Node{long}, make([]api.Node, 64)...)...), api.ErrMany)
		for other, over := range overs() {
			two := name + ", " + other
			holdBad(t, two, planOf(long, over), api.ErrLong)
			holdBad(t, two+" behind", planOf(api.Node{}, long, api.Node{}, over, long), api.ErrLong)
			holdBad(t, two+" turned", planOf(over, long), api.ErrMany)
			holdBad(t, two+" turned, behind", planOf(api.Node{}, over, api.Node{}, long, over), api.ErrMany)
			both := over
			both.Exprs = slices.Concat(long.Exprs, over.Exprs)
			holdBad(t, two+" in one", planOf(both), api.ErrMany)
			both.Exprs = slices.Concat(over.Exprs, long.Exprs)
			holdBad(t, two+" in one, turned", planOf(both), api.ErrMany)
			holdBad(t, two+" in one, and long ones behind", planOf(both, long), api.ErrMany)
			holdBad(t, two+" in one, and long ones ahead", planOf(long, both), api.ErrLong)
		}
	}
}

func TestTheFirstFaultOfAnExpr(t *testing.T) { // P17.1: of one expression ErrMany ahead of ErrLong, wherever the long text stands
	long := strings.Repeat("a", 4097)
	for _, at := range []int{0, 1, 63, 64} {
		steps := make([]api.Term, 65)
		steps[at].Str = long
		holdBad(t, fmt.Sprint("a long text at ", at), planOf(api.Node{Exprs: [][]api.Term{steps}}), api.ErrMany)
		if at < 64 {
			holdBad(t, fmt.Sprint("a long text alone at ", at), planOf(api.Node{Exprs: [][]api.Term{steps[:64]}}), api.ErrLong)
		}
	}
	exprs := make([][]api.Term, 17)
	exprs[16] = words(long)
	holdBad(t, "a long text of the 17th", planOf(api.Node{Exprs: exprs}), api.ErrMany)
}

func TestNoBytes(t *testing.T) { // P17.2: none at all, and first bytes alone
	holdNoForm(t, "nil", nil)
	holdNoForm(t, "none", []byte{})
	for x := range 256 {
		holdNoForm(t, "a first byte alone", []byte{byte(x)})
	}
}

func TestOtherBytes(t *testing.T) { // P17.2, P17.4: another first byte, what is cut off, what is added
	for _, p := range []api.Plan{{}, {Room: 1, Outs: []int{0}, Nodes: []api.Node{{}}}, {Room: 300, Outs: []int{1, 0, -70}, Nodes: everyKind().Nodes[2:4]}, everyKind()} {
		b := askedBytes(p)
		for i := range b {
			holdNoForm(t, "a beginning", b[:i])
		}
		for x := range 256 {
			holdNoForm(t, "one byte more", append(slices.Clone(b), byte(x)))
			if x != 80 {
				holdNoForm(t, "another first byte", append([]byte{byte(x)}, b[1:]...))
				holdNoForm(t, "one byte ahead", append([]byte{byte(x)}, b...))
			}
		}
		holdNoForm(t, "twice", slices.Concat(b, b))
		for i := range b {
			holdBytes(t, slices.Delete(slices.Clone(b), i, i+1))
		}
	}
}

func TestEachByteChanged(t *testing.T) { // P17.2, P17.4: to each other one: no plan's, or a plan's that is encoded as just these bytes
	for _, p := range []api.Plan{{}, {Room: 1, Outs: []int{0}, Nodes: []api.Node{{}}}, {Room: 300, Outs: []int{1, 0, -70}, Nodes: everyKind().Nodes[2:4]}} {
		b := askedBytes(p)
		good := 0
		for i := range b {
			for x := range 256 {
				other := slices.Clone(b)
				other[i] = byte(x)
				if holdBytes(t, other) {
					good++
				}
			}
		}
		if good <= len(b) || good == 256*len(b) {
			t.Error(good, len(b))
		}
	}
}

func TestNumbersInAnotherWay(t *testing.T) { // P17.2: noughts ahead, and numbers that are too great, in the place of each number and count
	beyond := [][]byte{fromHex("82 80 80 80 80 80 80 80 80 00"), fromHex("83 ff ff ff ff ff ff ff ff 7f"), fromHex("81 80 80 80 80 80 80 80 80 80 00"), many(20, byte(0xff)), many(20, byte(0x80))}
	for _, p := range []api.Plan{{Room: 300, Outs: []int{1, 0, -70}, Nodes: everyKind().Nodes[2:4]}, {}, {Nodes: []api.Node{{}}}} {
		parts := askedParts(p)
		for i := range parts {
			if i == 0 {
				continue
			}
			with := func(part []byte) []byte {
				return slices.Concat(slices.Concat(parts[:i]...), part, slices.Concat(parts[i+1:]...))
			}
			holdNoForm(t, "a nought ahead", with(append([]byte{0x80}, parts[i]...)))
			holdNoForm(t, "two noughts ahead", with(append([]byte{0x80, 0x80}, parts[i]...)))
			for _, x := range beyond {
				holdNoForm(t, "beyond any number", with(x))
			}
			holdNoForm(t, "left out", slices.Concat(parts[:i]...))
			holdBytes(t, with(nil))
		}
	}
}

func TestCountsAbove(t *testing.T) { // P17.2: one more than may be, all of them there
	for name, n := range overs() {
		holdNoForm(t, name, askedBytes(planOf(n)))
		holdNoForm(t, name+", of the last node", askedBytes(planOf(api.Node{}, n)))
	}
	for name, n := range longs() {
		holdNoForm(t, name, askedBytes(planOf(n)))
		holdNoForm(t, name+", of the last node", askedBytes(planOf(api.Node{}, n)))
	}
	holdNoForm(t, "65 nodes", askedBytes(planOf(make([]api.Node, 65)...)))
	holdNoForm(t, "9 outs", askedBytes(api.Plan{Outs: make([]int, 9)}))
}

func TestCountsWithNothingBehind(t *testing.T) { // P17.2: also as great as a number can be
	ahead := map[string]string{
		"outs":  "50 00",
		"nodes": "50 00 00",
		"ins":   "50 00 00 01 00",
		"kinds": "50 00 00 01 00 00",
		"exprs": "50 00 00 01 00 00 00",
		"steps": "50 00 00 01 00 00 00 01",
		"text":  "50 00 00 01 00 00 00 01 01 00 00",
		"cols":  "50 00 00 01 00 00 00 00",
	}
	for name, s := range ahead {
		for _, count := range []string{"01", "08", "09", "10", "11", "40", "41", "8100", "a000", "a001", "ffffff7f", "81 80 80 80 80 80 80 80 80 00", "81 ff ff ff ff ff ff ff ff 7f", "80 ff ff ff ff ff ff ff 7f"} {
			holdNoForm(t, name+" "+count, fromHex(s+count))
			holdBytes(t, fromHex(s+count+"00"))
			holdBytes(t, fromHex(s+count+strings.Repeat("00", 12)))
		}
	}
}

func TestTextsThatEndTooEarly(t *testing.T) { // P17.2: said to be longer than what is left
	ahead, behind := fromHex("50 00 00 01 00 00 00 01 01 00 00"), fromHex("00 00 00 00 00")
	for size := range 300 {
		text := askedText(strings.Repeat("a", size))
		holdBytes(t, slices.Concat(ahead, text, behind))
		if _, e := sheet.Decode(slices.Concat(ahead, text, behind)); e != api.OK {
			t.Fatal(size, e)
		}
		for cut := 1; cut <= size; cut += max(1, size/7) {
			holdNoForm(t, "a text that ends too early", slices.Concat(ahead, text[:len(text)-cut]))
		}
	}
	holdNoForm(t, "a text that is too long", slices.Concat(ahead, askedText(strings.Repeat("a", 4097)), behind))
}

func TestSame(t *testing.T) { // P17.3: told by hand
	a := api.Plan{Room: 5, Outs: []int{0}, Nodes: []api.Node{{Kind: 1, Ins: []int{0}, Exprs: [][]api.Term{{{Op: 2, Int: 3, Str: "a"}}}}}}
	b := api.Plan{Room: 5, Outs: []int{0}, Nodes: []api.Node{{Kind: 1, Ins: []int{0}, Exprs: [][]api.Term{{{Op: 2, Int: 3, Str: "a"}}}}}}
	if !sheet.Same(a, b) || !sheet.Same(a, a) || !sheet.Same(api.Plan{}, api.Plan{}) {
		t.Error("alike, and not the same")
	}
	if sheet.Same(a, api.Plan{}) || sheet.Same(api.Plan{}, a) {
		t.Error("nothing is the same as something")
	}
	b.Nodes[0].Exprs[0][0].Int = 4
	if sheet.Same(a, b) || sheet.Same(b, a) {
		t.Error("another number, and the same")
	}
	b = clone(a)
	b.Nodes[0].Exprs = [][]api.Term{{}, {{Op: 2, Int: 3, Str: "a"}}}
	if sheet.Same(a, b) {
		t.Error("an expression of no step more, and the same")
	}
	b = clone(a)
	b.Nodes = append(b.Nodes, api.Node{})
	if sheet.Same(a, b) || sheet.Same(b, a) {
		t.Error("a node of zeros more, and the same")
	}
}

func TestSameEachField(t *testing.T) { // P17.3: two that differ in one field alone, in each in turn
	p := everyKind()
	for i := range numbersOf(&p) {
		for _, x := range []int{1, -1, 1 << 32, low} {
			q := clone(p)
			*numbersOf(&q)[i] += x
			holdOther(t, fmt.Sprintf("number %d", i), p, q)
		}
	}
	for i := range textsOf(&p) {
		for _, x := range []string{"\x00", " ", "é"} {
			q := clone(p)
			*textsOf(&q)[i] += x
			holdOther(t, fmt.Sprintf("text %d", i), p, q)
		}
	}
}

func TestSameEachList(t *testing.T) { // P17.3: a list that is longer or shorter by one, or in another order
	p := everyKind()
	count := len(listsOf(&p))
	if count < 16*7 {
		t.Fatal(count)
	}
	for i := range count {
		for name, change := range listChanges() {
			q := clone(p)
			l := listsOf(&q)[i]
			change(l)
			if reflect.DeepEqual(p, q) {
				continue
			}
			holdOther(t, fmt.Sprintf("list %d: %s", i, name), p, q)
		}
	}
}

// listChanges are ways in which a list becomes another one.
func listChanges() map[string]func(l reflect.Value) {
	return map[string]func(l reflect.Value){
		"one of zeros more": func(l reflect.Value) { l.Set(reflect.Append(l, reflect.Zero(l.Type().Elem()))) },
		"the last one twice": func(l reflect.Value) {
			if l.Len() > 0 {
				l.Set(reflect.Append(l, l.Index(l.Len()-1)))
			}
		},
		"one less": func(l reflect.Value) { l.Set(l.Slice(0, max(l.Len()-1, 0))) },
		"the first one less": func(l reflect.Value) {
			l.Set(l.Slice(min(l.Len(), 1), l.Len()))
		},
		"none": func(l reflect.Value) { l.Set(reflect.Zero(l.Type())) },
		"turned": func(l reflect.Value) {
			swap := reflect.Swapper(l.Interface())
			for i := range l.Len() / 2 {
				swap(i, l.Len()-1-i)
			}
		},
		"the first two turned": func(l reflect.Value) {
			if l.Len() > 1 {
				reflect.Swapper(l.Interface())(0, 1)
			}
		},
	}
}

// holdOther holds two plans that are not alike: they are not the same, and their bytes are not.
func holdOther(t *testing.T, name string, p, q api.Plan) {
	t.Helper()
	if sheet.Same(p, q) || sheet.Same(q, p) {
		t.Errorf("%s: the same", name)
	}
	if !sheet.Same(q, clone(q)) {
		t.Errorf("%s: not the same as itself", name)
	}
	a, _ := sheet.Encode(p)
	b, e := sheet.Encode(q)
	if e == api.OK && bytes.Equal(a, b) {
		t.Errorf("%s: the same bytes", name)
	}
}

func TestNilAndEmpty(t *testing.T) { // P17.2, P17.3, the rule of memory: nil and empty lists are alike, in each place
	p := everyKind()
	p.Nodes = append(p.Nodes, api.Node{}, api.Node{Exprs: [][]api.Term{{}, {{}}, {}}})
	for i := range listsOf(&p) {
		none, empty := clone(p), clone(p)
		l := listsOf(&none)[i]
		l.Set(reflect.Zero(l.Type()))
		l = listsOf(&empty)[i]
		l.Set(reflect.MakeSlice(l.Type(), 0, 3))
		if !sheet.Same(none, empty) || !sheet.Same(empty, none) {
			t.Errorf("list %d: nil and empty are not the same", i)
		}
		a, e := sheet.Encode(none)
		b, other := sheet.Encode(empty)
		if e != other || !bytes.Equal(a, b) || sheet.Check(none) != sheet.Check(empty) {
			t.Errorf("list %d: nil %s, %d, empty %s, %d", i, short(a), e, short(b), other)
		}
	}
	x := api.Plan{Nodes: []api.Node{{Ins: []int{}, Kinds: []int{}, Exprs: [][]api.Term{{}}, Cols: []int{}}}, Outs: []int{}}
	y := api.Plan{Nodes: []api.Node{{Exprs: [][]api.Term{nil}}}}
	if !sheet.Same(x, y) || !sheet.Same(y, x) || !sheet.Same(api.Plan{Nodes: []api.Node{}}, api.Plan{}) {
		t.Error("nil and empty are not the same")
	}
}

func TestSameOfPlansThatAreRefused(t *testing.T) { // P17.3: whether they may be told is not asked
	for name, n := range overs() {
		holdAlike(t, name, planOf(n), planOf(api.Node{}))
	}
	for name, n := range longs() {
		holdAlike(t, name, planOf(api.Node{}, n), planOf(api.Node{}, api.Node{}))
	}
	holdAlike(t, "65 nodes", planOf(make([]api.Node, 65)...), planOf(make([]api.Node, 66)...))
	a, b := planOf(make([]api.Node, 65)...), planOf(make([]api.Node, 65)...)
	b.Nodes[64].Slide = 1
	holdAlike(t, "65 nodes, the last one another", a, b)
	holdAlike(t, "9 outs", api.Plan{Outs: make([]int, 9)}, api.Plan{Outs: make([]int, 10)})
	a, b = planOf(api.Node{Exprs: [][]api.Term{words(strings.Repeat("a", 5000))}}), planOf(api.Node{Exprs: [][]api.Term{words(strings.Repeat("a", 4999) + "b")}})
	holdAlike(t, "long texts", a, b)
}

// holdAlike holds a plan against a copy, and against another one.
func holdAlike(t *testing.T, name string, p, other api.Plan) {
	t.Helper()
	if !sheet.Same(p, clone(p)) {
		t.Errorf("%s: not the same as its copy", name)
	}
	if sheet.Same(p, other) || sheet.Same(other, p) {
		t.Errorf("%s: the same as another one", name)
	}
}

package tune_test

import (
	"fmt"
	"slices"
	"strings"
	"testing"

	"runnel/api"
	"runnel/plan"
	"runnel/tune"
	"runnel/words"
)

func TestPage(t *testing.T) { // P31.1: the page's example
	holdTunedPlan(t, "the page", planOf(input(), negate(0), negate(1)), outsAre(planOf(input()), 0), 0, -1, 0)
	holdTuned(t, "of a column", "input int / negate 0 / negate 1 / out 2", "input int / out 0", 0, -1, 0)
}

func TestEachRule(t *testing.T) { // P31.1: each rule by itself
	holdTuned(t, "negates", "input int / negate 0 / negate 1 / count 2 1 / out 3", "input int / count 0 1 / out 1", 0, -1, 0, 1)
	holdTuned(t, "a concat of one", "input int / concat 0 / count 1 1 / out 2", "input int / count 0 1 / out 1", 0, 0, 1)
	holdTuned(t, "consolidates", "input int / consolidate 0 / consolidate 1 / out 2", "input int / consolidate 0 / out 1", 0, 1, 1)
	holdTuned(t, "distincts", "input int / distinct 0 / distinct 1 / out 2", "input int / distinct 0 / out 1", 0, 1, 1)
	holdTuned(t, "a filter that takes all", "input int / filter 0 [ 7 ] / count 1 1 / out 2", "input int / count 0 1 / out 1", 0, 0, 1)
	holdTuned(t, "a project of all", "input int str / project 0 0 1 / count 1 1 / out 2", "input int str / count 0 1 / out 1", 0, 0, 1)
	holdTuned(t, "two that are Same", "input int / count 0 1 / count 0 1 / concat 1 2 / out 3", "input int / count 0 1 / concat 1 1 / out 2", 0, 1, 1, 2)
	holdTuned(t, "a project of a project", "input int str int / project 0 1 2 / project 1 1 0 1 / out 2", "input int str int / project 0 2 1 2 / out 1", 0, -1, 1)
	holdTuned(t, "a map of a map", "input int / map 0 [ c0 2 mul ] / map 1 [ c0 c0 add ] [ 5 ] / out 2", "input int / map 0 [ c0 2 mul c0 2 mul add ] [ 5 ] / out 1", 0, -1, 1)
	holdTuned(t, "a concat of a concat", "input int / negate 0 / concat 0 1 / concat 1 2 0 / out 3", "input int / negate 0 / concat 1 0 1 0 / out 2", 0, 1, -1, 2)
	holdTuned(t, "one that leads nowhere", "input int / negate 0 / distinct 0 / out 2", "input int / distinct 0 / out 1", 0, -1, 1)
}

func TestNothingIsToBeDone(t *testing.T) { // P31.1: and P31.3, tuned again, it stays
	holdStays(t, "one input alone", "input / out 0")
	holdStays(t, "an input of 16", "input"+strings.Repeat(" int", 16)+" / out 0")
	holdStays(t, "one of each kind",
		"input int int / map 0 [ c1 ] [ c0 ] / filter 1 [ c0 ] / project 2 1 0 / concat 3 0 / negate 4 / consolidate 5 / arrange 6 1 / distinct 7 / count 8 1 / sum 9 1 0 / min 10 1 / max 11 1 / top 12 1 2 / bucket 13 1 2 1 / join 14 0 1 / out 15")
	holdStays(t, "fed ahead", "negate 1 / input int / distinct 0 / out 2")
	holdStays(t, "two inputs of the same Kinds", "input int / input int / out 0")
	holdStays(t, "inputs alone", "input / input / input int / input int / input str / out 4 / out 0")
	holdStays(t, "near to a rule", "input int str / filter 0 [ 0 ] / project 0 1 0 / project 0 0 / project 0 0 0 1 / concat 1 0 / concat 0 1 / out 2 / out 3 / out 4 / out 5 / out 6")
	holdStays(t, "kinds in turn", "input int / negate 0 / consolidate 1 / distinct 2 / negate 3 / distinct 4 / consolidate 5 / out 6")
	holdStays(t, "64 inputs", strings.Repeat("input int / ", 64)+"out 63")
	p := "input int"
	for i := range 63 {
		p += fmt.Sprint(" / ", anyOf(newChance(i), "min", "max"), " ", i, " ", i%2)
	}
	holdStays(t, "64 nodes", strings.NewReplacer("min 0 1", "count 0 1").Replace(p)+" / out 63")
}

func TestTunedPlanIsWhole(t *testing.T) { // P31.1: Room stays, Outs are led, all fields of a node stay but its Ins
	for _, room := range []int{1, 2, 100, api.MaxRoom} {
		p := roomIs(parsed("input int / negate 0 / negate 1 / out 2 / out 0 / out 1 / out 1"), room)
		holdTunedPlan(t, "rooms", p, roomIs(parsed("input int / negate 0 / out 0 / out 0 / out 1 / out 1"), room), 0, 1, 0)
	}
	p := parsed("negate 4 / bucket 5 0 4 2 / top 1 2 7 / sum 2 1 0 / input int / negate 0 / out 3")
	holdTunedPlan(t, "settings", p, parsed("bucket 3 0 4 2 / top 0 2 7 / sum 1 1 0 / input int / out 2"), -1, 0, 1, 2, 3, 3)
	holdTuned(t, "two outs of one", "input int / count 0 0 / count 0 0 / out 2 / out 1 / out 2", "input int / count 0 0 / out 1 / out 1 / out 1", 0, 1, 1)
	holdTuned(t, "eight outs", "input int / concat 0 / distinct 1 / distinct 2 / out 3 / out 2 / out 1 / out 0 / out 0 / out 1 / out 2 / out 3",
		"input int / distinct 0 / out 1 / out 1 / out 0 / out 0 / out 0 / out 0 / out 1 / out 1", 0, 0, 1, 1)
	holdTuned(t, "outs that are inputs", "input int / input int / negate 1 / out 1 / out 0", "input int / input int / out 1 / out 0", 0, 1, -1)
}

// chain is a plan of an input and so many nodes, one behind the other; its first and last out are the last node.
func chain(line string, count int) string {
	s := "input int str"
	for i := range count {
		s += " / " + strings.ReplaceAll(line, "@", fmt.Sprint(i))
	}
	return s + fmt.Sprint(" / out ", count)
}

func TestChains(t *testing.T) { // P31.1, P31.3: of 1 to 63 nodes
	for count := 1; count < api.MaxNodes; count++ {
		name := func(kind string) string { return fmt.Sprint(count, " ", kind) }
		if count%2 == 0 {
			at := make([]int, count+1)
			for i := 1; i < count; i += 2 {
				at[i] = -1
			}
			holdTuned(t, name("negates"), chain("negate @", count), "input int str / out 0", at...)
		} else {
			at := make([]int, count+1)
			for i := 1; i <= count; i += 2 {
				at[i] = 1
			}
			holdTuned(t, name("negates"), chain("negate @", count), "input int str / negate 0 / out 1", at...)
		}
		holdTuned(t, name("concats"), chain("concat @", count), "input int str / out 0", make([]int, count+1)...)
		holdTuned(t, name("filters"), chain("filter @ [ -1 ]", count), "input int str / out 0", make([]int, count+1)...)
		holdTuned(t, name("projects of all"), chain("project @ 0 1", count), "input int str / out 0", make([]int, count+1)...)
		holdTuned(t, name("consolidates"), chain("consolidate @", count), "input int str / consolidate 0 / out 1", append([]int{0}, many(count, 1)...)...)
		holdTuned(t, name("distincts"), chain("distinct @", count), "input int str / distinct 0 / out 1", append([]int{0}, many(count, 1)...)...)
		holdTuned(t, name("maps"), chain("map @ [ c0 ] [ 'x ]", count), "input int str / map 0 [ c0 ] [ 'x ] / out 1", append([]int{0}, many(count, 1)...)...)
		if count%2 == 0 {
			at := make([]int, count+1)
			for i := 1; i < count; i += 2 {
				at[i] = -1
			}
			holdTuned(t, name("projects"), strings.ReplaceAll(chain("project @ 1 0", count), "str", "int"), "input int int / out 0", at...)
		}
		holdStays(t, name("filters that take something"), chain("filter @ [ c0 ]", count))
		holdTuned(t, name("filters that take nothing"), chain("filter @ [ 0 ]", count), chain("filter @ [ 0 ]", count), upTo(count+1)...)
	}
}

func TestNegates(t *testing.T) { // P31.1, P31.3: no negate is fed by a negate
	holdTuned(t, "three", "input int / negate 0 / negate 1 / negate 2 / out 3", "input int / negate 0 / out 1", 0, 1, 0, 1)
	holdTuned(t, "four, and each is an out", "input int / negate 0 / negate 1 / negate 2 / negate 3 / out 1 / out 2 / out 3 / out 4",
		"input int / negate 0 / out 1 / out 0 / out 1 / out 0", 0, 1, 0, 1, 0)
	holdTuned(t, "through a concat", "input int / negate 0 / concat 1 / negate 2 / out 3", "input int / out 0", 0, -1, -1, 0)
	holdTuned(t, "numbers from the end", "negate 1 / negate 2 / negate 3 / negate 4 / input int / out 0", "input int / out 0", 0, -1, 0, -1, 0)
	holdTuned(t, "negates and consolidates in turn", "input int / negate 0 / consolidate 1 / negate 2 / consolidate 3 / out 4",
		"input int / negate 0 / consolidate 1 / negate 2 / consolidate 3 / out 4", 0, 1, 2, 3, 4)
	holdTuned(t, "two and two in turn", "input int / negate 0 / negate 1 / consolidate 2 / consolidate 3 / negate 4 / negate 5 / consolidate 6 / out 7",
		"input int / consolidate 0 / out 1", 0, -1, 0, 1, 1, -1, 1, 1)
	holdTuned(t, "of a distinct", "input int / distinct 0 / negate 1 / negate 2 / distinct 3 / out 4", "input int / distinct 0 / out 1", 0, 1, -1, 1, 1)
	holdTuned(t, "that are Same", "input int / negate 0 / negate 0 / negate 1 / negate 2 / concat 3 4 1 2 / out 5", "input int / negate 0 / concat 0 0 1 1 / out 2", 0, 1, 1, 0, 0, 2)
}

func TestFilters(t *testing.T) { // P31.1: one OpInt other than 0
	text := func(p api.Plan, s string) api.Plan {
		p.Nodes[1].Exprs[0][0].Str = s
		return p
	}
	for _, x := range []int{1, 2, -1, 7, low, high} {
		p := planOf(input(num), filter(0, of(number(x))), keyed(api.NodeCount, 1, 0, 0))
		holdTunedPlan(t, fmt.Sprint("of ", x), p, parsed("input int / count 0 0 / out 1"), 0, 0, 1)
		holdTunedPlan(t, fmt.Sprint("with a text beside ", x), text(clone(p), "0"), parsed("input int / count 0 0 / out 1"), 0, 0, 1)
	}
	for _, s := range []string{"0", "c0", "1 not", "1 neg", "1 1 add", "1 1", "'a len", "c0 c0 eq", "1 1 1 if", "-1 neg"} {
		if s != "1 1" {
			holdStays(t, s, "input int / filter 0 [ "+s+" ] / out 1")
		}
	}
	p := text(parsed("input int / filter 0 [ 0 ] / out 1"), "a")
	holdTunedPlan(t, "0 with a text beside", p, p, 0, 1)
	p = planOf(input(num), filter(0, of(api.Term{Op: api.OpCol, Int: 0, Str: "1"})))
	holdTunedPlan(t, "a column", p, p, 0, 1)
	p = planOf(input(num, num), filter(0, of(api.Term{Op: api.OpCol, Int: 1})))
	holdTunedPlan(t, "a column other than 0", p, p, 0, 1)
	holdTuned(t, "of a filter", "input int / filter 0 [ 0 ] / filter 1 [ 1 ] / filter 2 [ 0 ] / out 3", "input int / filter 0 [ 0 ] / filter 1 [ 0 ] / out 2", 0, 1, 1, 2)
}

func TestProjects(t *testing.T) { // P31.1: all columns in their order; a project of a project
	holdTuned(t, "of a row without columns", "input / project 0 / out 1", "input / out 0", 0, 0)
	holdStays(t, "of no columns", "input int / project 0 / out 1")
	holdStays(t, "in another order", "input int int / project 0 1 0 / out 1")
	holdStays(t, "of one twice", "input int / project 0 0 0 / out 1")
	holdStays(t, "of one twice, as many as there are", "input int int / project 0 0 0 / out 1")
	holdStays(t, "of the first ones", "input int int int / project 0 0 1 / out 1")
	holdStays(t, "of the others", "input int int int / project 0 1 2 / out 1")
	holdStays(t, "of all and one more", "input int int / project 0 0 1 0 / out 1")
	all := "0 1 2 3 4 5 6 7 8 9 10 11 12 13 14 15"
	sixteen := "input" + strings.Repeat(" int", 16)
	holdTuned(t, "of all 16", sixteen+" / project 0 "+all+" / out 1", sixteen+" / out 0", 0, 0)
	holdStays(t, "of all 16, the last two turned", sixteen+" / project 0 "+strings.Replace(all, "14 15", "15 14", 1)+" / out 1")
	holdTuned(t, "of a count", "input int str / count 0 1 / project 1 0 1 / out 2", "input int str / count 0 1 / out 1", 0, 1, 1)
	holdTuned(t, "of a bucket", "input int str / bucket 0 0 1 1 / project 1 0 1 2 / project 2 0 1 / out 3", "input int str / bucket 0 0 1 1 / project 1 0 1 / out 2", 0, 1, 1, 2)
	holdTuned(t, "of a join", "input int str / join 0 0 1 / project 1 0 1 2 / out 2", "input int str / join 0 0 1 / out 1", 0, 1, 1)
	holdTuned(t, "that turns back", "input int str / project 0 1 0 / project 1 1 0 / out 2", "input int str / out 0", 0, -1, 0)
	holdTuned(t, "that turns back two, with the first one", "input int str / project 0 1 0 / project 1 1 0 / out 1 / out 2", "input int str / project 0 1 0 / out 1 / out 0", 0, 1, 0)
	holdTuned(t, "columns told twice", "input int str / project 0 1 0 1 / project 1 2 0 0 1 / out 2", "input int str / project 0 1 1 1 0 / out 1", 0, -1, 1)
	holdTuned(t, "columns left out", "input int str / project 0 1 1 / project 1 1 / out 2", "input int str / project 0 1 / out 1", 0, -1, 1)
	holdTuned(t, "no columns of some", "input int str / project 0 1 1 / project 1 / out 2", "input int str / project 0 / out 1", 0, -1, 1)
	holdTuned(t, "no columns of none", "input int str / project 0 / project 1 / out 2", "input int str / project 0 / out 1", 0, 1, 1)
	holdTuned(t, "of none of an input without", "input / project 0 / project 1 / project 2 / out 3", "input / out 0", 0, 0, 0, 0)
	holdTuned(t, "four", "input int str / project 0 0 0 1 1 / project 1 3 0 / project 2 1 0 1 / project 3 2 / out 4 / out 3", "input int str / project 0 0 1 0 / project 0 0 / out 2 / out 1", 0, -1, -1, 1, 2)
	holdTuned(t, "16 of one", "input int / project 0"+strings.Repeat(" 0", 16)+" / project 1"+strings.Repeat(" 15", 15)+" / out 2", "input int / project 0"+strings.Repeat(" 0", 15)+" / out 1", 0, -1, 1)
	holdTuned(t, "three, turned round", "input int str int / project 0 1 2 0 / project 1 1 2 0 / project 2 1 2 0 / out 3", "input int str int / out 0", 0, -1, -1, 0)
}

func TestMaps(t *testing.T) { // P31.1: a map of a map whose Fuse there is
	holdTuned(t, "columns told twice", "input int int / map 0 [ c1 1 add ] [ c0 ] / map 1 [ c0 c0 mul ] [ c0 ] [ c1 ] / out 2",
		"input int int / map 0 [ c1 1 add c1 1 add mul ] [ c1 1 add ] [ c0 ] / out 1", 0, -1, 1)
	holdTuned(t, "columns left out", "input int int / map 0 [ c1 1 add ] [ c0 ] / map 1 [ c1 neg ] / out 2", "input int int / map 0 [ c0 neg ] / out 1", 0, -1, 1)
	holdTuned(t, "no columns", "input int int / map 0 [ c1 1 add ] [ c0 ] / map 1 [ 'a ] / out 2", "input int int / map 0 [ 'a ] / out 1", 0, -1, 1)
	holdTuned(t, "of an input without", "input / map 0 [ 3 ] / map 1 [ c0 c0 mul ] / out 2", "input / map 0 [ 3 3 mul ] / out 1", 0, -1, 1)
	holdTuned(t, "texts", "input str / map 0 [ c0 'a%20 cat ] / map 1 [ c0 len ] [ c0 ] / map 2 [ c1 ] [ c0 ] / out 3", "input str / map 0 [ c0 'a%20 cat ] [ c0 'a%20 cat len ] / out 1", 0, -1, -1, 1)
	holdTuned(t, "each is an out", "input int / map 0 [ c0 1 add ] / map 1 [ c0 2 mul ] / out 1 / out 2", "input int / map 0 [ c0 1 add ] / map 0 [ c0 1 add 2 mul ] / out 1 / out 2", 0, 1, 2)
	holdStays(t, "of a project", "input int / project 0 0 0 / map 1 [ c0 ] / project 2 0 0 / out 3")
	holdTuned(t, "that tell all columns", "input int / map 0 [ c0 ] / map 1 [ c0 ] / out 2", "input int / map 0 [ c0 ] / out 1", 0, 1, 1)
	// steps: 64 and 65 then
	for _, c := range []struct {
		lower, upper int
		fits         bool
	}{{31, 2, true}, {32, 2, false}, {63, 1, true}, {64, 1, true}, {1, 32, true}, {2, 21, true}, {2, 22, false}, {20, 3, true}, {21, 3, false}} {
		lower, upper := "c0"+strings.Repeat(" neg", c.lower-1), "c0"+strings.Repeat(" c0 add", c.upper-1)
		fused := lower + strings.Repeat(" "+lower+" add", c.upper-1)
		given := "input int / map 0 [ " + lower + " ] / map 1 [ " + upper + " ] / out 2"
		if c.fits {
			holdTuned(t, "steps that fit", given, "input int / map 0 [ "+fused+" ] / out 1", 0, firstAt(c.upper), 1)
		} else {
			holdStays(t, "too many steps", given)
		}
	}
	for steps := 62; steps <= 64; steps++ {
		lower := "c0" + strings.Repeat(" neg", steps-1)
		given := "input int / map 0 [ " + lower + " ] / map 1 [ c0 not ] / out 2"
		if steps < 64 {
			holdTuned(t, "just as many steps", given, "input int / map 0 [ "+lower+" not ] / out 1", 0, -1, 1)
		} else {
			holdStays(t, "one step too many", given)
		}
	}
	holdTuned(t, "one of two does not fit", "input int / map 0 [ c0"+strings.Repeat(" neg", 63)+" ] [ c0 ] / map 1 [ c1 ] [ c0 ] / map 2 [ c0 neg ] / map 2 [ c1 neg ] / out 3 / out 4",
		"input int / map 0 [ c0 ] [ c0"+strings.Repeat(" neg", 63)+" ] / map 0 [ c0 neg ] / map 1 [ c1 neg ] / out 2 / out 3", 0, -1, 1, 2, 3)
	// values at once: 16 and 17 then
	for high := 13; high <= 17; high++ {
		lower := "c0" + strings.Repeat(" c0", high-3) + strings.Repeat(" add", high-3)
		given := "input int / map 0 [ " + lower + " ] / map 1 [ 1 2 c0 add add ] / out 2"
		if high <= 16 {
			holdTuned(t, "values that fit", given, "input int / map 0 [ 1 2 "+lower+" add add ] / out 1", 0, -1, 1)
		} else {
			holdStays(t, "too many values", given)
		}
	}
	long := "c0" + strings.Repeat(" c0 add", 20)
	holdTuned(t, "a third one does not fit", "input int / map 0 [ "+long+" ] / map 1 [ c0 neg ] / map 2 [ c0 c0 mul ] / out 3", "input int / map 0 [ "+long+" neg ] / map 1 [ c0 c0 mul ] / out 2", 0, -1, 1, 2)
}

// firstAt: a map of the column alone is stood for, as it comes to be Same as the one ahead of it.
func firstAt(upper int) int {
	if upper == 1 {
		return 1
	}
	return -1
}

func TestConcats(t *testing.T) { // P31.1: a concat that is fed by another concat
	// ofTwo is an input with so many negates, filters and such, all of other nodes, then a concat of so many of them
	distincts := func(count int) (s string) {
		s = "input int"
		for i := range count - 1 {
			s += fmt.Sprint(" / filter 0 [ c0 ", i, " less ]")
		}
		return s
	}
	numbers := func(from, count int) string {
		return strings.Trim(fmt.Sprint(slices.Collect(func(yield func(int) bool) {
			for i := range count {
				if !yield(from + i) {
					return
				}
			}
		})), "[]")
	}
	for inner := 2; inner <= 8; inner++ {
		for outer := 1; outer <= 8; outer++ {
			for place := range outer {
				others := strings.Fields(numbers(8, outer-1))
				l := slices.Insert(others, place, "15")
				given := distincts(15) + " / concat " + numbers(0, inner) + " / concat " + strings.Join(l, " ") + " / out 16"
				p := parsed(given)
				name := fmt.Sprint(inner, " in place ", place, " of ", outer)
				q, at, e := tune.Tune(p)
				last := q.Nodes[len(q.Nodes)-1]
				want := slices.Insert(toNumbers(others), place, toNumbers(strings.Fields(numbers(0, inner)))...)
				if outer == 1 {
					want = upTo(inner)
				}
				whole := inner+outer-1 <= api.MaxIns || outer == 1
				if e != api.OK || last.Kind != api.NodeConcat || whole == slices.Contains(kindsOf(q, last.Ins), api.NodeConcat) {
					t.Fatalf("%s: %s, %v", name, brief(q), at)
				}
				if whole && !slices.Equal(cameFrom(at, last.Ins), want) {
					t.Fatalf("%s: fed by %v, want %v", name, cameFrom(at, last.Ins), want)
				}
				holdAll(t, name, p)
			}
		}
	}
	holdTuned(t, "in twice", "input int / negate 0 / concat 0 1 / concat 2 2 / out 3", "input int / negate 0 / concat 0 1 0 1 / out 2", 0, 1, -1, 2)
	holdTuned(t, "in at both ends", "input int / negate 0 / concat 0 1 / concat 2 0 2 / out 3", "input int / negate 0 / concat 0 1 0 0 1 / out 2", 0, 1, -1, 2)
	holdTuned(t, "four twice", "input int / concat 0 0 0 0 / concat 1 1 / out 2", "input int / concat 0 0 0 0 0 0 0 0 / out 1", 0, -1, 1)
	holdTuned(t, "five twice, of which one fits", "input int / concat 0 0 0 0 0 / concat 1 1 / out 2", "input int / concat 0 0 0 0 0 / concat 0 0 0 0 0 1 / out 2", 0, 1, 2)
	holdTuned(t, "the first of two fits", "input int / concat 0 0 0 0 0 / negate 0 / concat 2 2 0 0 0 / concat 1 3 / out 4", "input int / negate 0 / concat 1 1 0 0 0 / concat 0 0 0 0 0 2 / out 3", 0, -1, 1, 2, 3)
	holdTuned(t, "the second of two fits", "input int / concat 0 0 0 0 0 0 0 0 / negate 0 / concat 2 0 / concat 1 3 / out 4", "input int / concat 0 0 0 0 0 0 0 0 / negate 0 / concat 1 2 0 / out 3", 0, 1, 2, -1, 3)
	holdTuned(t, "of one in, that lead to another one", "input int / negate 0 / concat 0 1 / concat 2 / concat 3 / concat 4 0 / out 5", "input int / negate 0 / concat 0 1 0 / out 2", 0, 1, -1, -1, -1, 2)
	holdTuned(t, "of one in, at the end", "input int / negate 0 / concat 0 1 / concat 2 / out 3", "input int / negate 0 / concat 0 1 / out 2", 0, 1, 2, 2)
	holdTuned(t, "three deep", "input int / negate 0 / concat 0 1 / concat 1 2 / concat 3 0 / out 4", "input int / negate 0 / concat 1 0 1 0 / out 2", 0, 1, -1, -1, 2)
	holdTuned(t, "each is an out", "input int / negate 0 / concat 0 1 / concat 2 0 / out 2 / out 3", "input int / negate 0 / concat 0 1 / concat 0 1 0 / out 2 / out 3", 0, 1, 2, 3)
	holdTuned(t, "eight of one", "input int / concat 0 0 0 0 0 0 0 0 / concat 1 / concat 2 2 / out 3", "input int / concat 0 0 0 0 0 0 0 0 / concat 1 1 / out 2", 0, 1, 1, 2)
	holdTuned(t, "twos of twos", "input int / concat 0 0 / concat 1 1 / concat 2 2 / concat 3 3 / concat 4 4 / out 5", "input int / concat 0 0 0 0 0 0 0 0 / concat 1 1 1 1 / out 2", 0, -1, -1, 1, -1, 2)
}

func toNumbers(l []string) []int {
	var numbers []int
	for _, s := range l {
		x := 0
		fmt.Sscan(s, &x)
		numbers = append(numbers, x)
	}
	return numbers
}

// cameFrom are the nodes that went to these.
func cameFrom(at, l []int) []int {
	var from []int
	for _, x := range l {
		from = append(from, slices.Index(at, x))
	}
	return from
}

func kindsOf(p api.Plan, l []int) []int {
	var kinds []int
	for _, x := range l {
		kinds = append(kinds, p.Nodes[x].Kind)
	}
	return kinds
}

func TestTurnsOfConcats(t *testing.T) { // P31.1: a concat that is made longer may be made so again, and what it was fed by is left out
	p := "input int / negate 0"
	for i := range 62 {
		p += fmt.Sprint(" / concat ", i+1, " 0")
	}
	q, at, e := tune.Tune(parsed(p + " / out 63"))
	if e != api.OK || len(q.Nodes) != 11 || at[63] != 10 || at[62] != -1 {
		t.Fatalf("%s, %v, %d", brief(q), at, int(e))
	}
	holdAll(t, "62 concats of two", parsed(p+" / out 63"))
}

func TestSameNodes(t *testing.T) { // P31.1: a node that is Same as an earlier one, each kind of them
	for _, line := range []string{"map 0 [ c0 1 add ]", "filter 0 [ c0 ]", "project 0 1 0", "concat 0 0", "negate 0", "consolidate 0", "bucket 0 0 4 2", "arrange 0 1", "distinct 0",
		"count 0 1", "sum 0 1 0", "min 0 1", "max 0 1", "top 0 1 2", "join 0 0 1"} {
		given := "input int int / " + line + " / input int int / " + line + " / " + line + " / arrange 3 0 / arrange 4 1 / out 4 / out 1"
		want := "input int int / " + line + " / input int int / arrange 1 0 / arrange 1 1 / out 1 / out 1"
		at := []int{0, 1, 2, 1, 1, 3, 4}
		if strings.HasPrefix(line, "arrange") {
			want = "input int int / " + line + " / input int int / arrange 1 0 / arrange 1 1 / out 1 / out 1"
		}
		holdTuned(t, line, given, want, at...)
		other := "input int int / input int int / " + line + " / " + strings.ReplaceAll(line, " 0", " 1") + " / out 2 / out 3"
		if strings.Contains(line, "sum") || strings.Contains(line, "bucket") || strings.Contains(line, "join") || strings.Contains(line, "project") {
			continue
		}
		holdStays(t, line+" of others", other)
	}
	holdTuned(t, "the same Ins, led", "input int / concat 0 / filter 1 [ 1 ] / count 2 1 / count 0 1 / count 1 1 / concat 3 4 5 / out 6", "input int / count 0 1 / concat 1 1 1 / out 2", 0, 0, 0, 1, 1, 1, 2)
	holdTuned(t, "joins turned round", "input int / input int / join 0 1 1 / join 1 0 1 / join 0 1 1 / out 2 / out 3 / out 4", "input int / input int / join 0 1 1 / join 1 0 1 / out 2 / out 3 / out 2", 0, 1, 2, 3, 2)
	holdStays(t, "concats turned round", "input int / input int / concat 0 1 / concat 1 0 / out 2 / out 3")
	holdStays(t, "tops of others", "input int int / top 0 1 2 / top 0 1 3 / top 0 2 2 / sum 0 1 0 / sum 0 1 1 / sum 0 0 0 / out 1 / out 2 / out 3 / out 4 / out 5 / out 6")
	holdStays(t, "buckets of others", "input int int / bucket 0 0 4 2 / bucket 0 1 4 2 / bucket 0 0 3 2 / bucket 0 0 4 3 / out 1 / out 2 / out 3 / out 4")
	holdStays(t, "inputs of the same Kinds, and what they feed", "input int / input int / negate 0 / negate 1 / out 2 / out 3")
	all := "input int"
	for range 63 {
		all += " / count 0 1"
	}
	holdTuned(t, "63 of them", all+" / out 63", "input int / count 0 1 / out 1", append([]int{0}, many(63, 1)...)...)
	copies := "input int / input int"
	for i := range 62 {
		copies += fmt.Sprint(" / ", anyOf(newChance(i), "count", "sum", "top", "min", "max"), " ", i/31, " 1")
	}
	copies = strings.NewReplacer("sum 0 1", "sum 0 1 0", "sum 1 1", "sum 1 1 0", "top 0 1", "top 0 1 2", "top 1 1", "top 1 1 2").Replace(copies)
	if q, _, e := tune.Tune(parsed(copies + " / out 63 / out 32 / out 2 / out 3 / out 4 / out 5 / out 6 / out 7")); e != api.OK || len(q.Nodes) > 12 {
		t.Errorf("%s, %d", brief(q), int(e))
	}
}

func TestSameInLaterRounds(t *testing.T) { // P31.1: until a round changes nothing
	holdTuned(t, "by maps that were fused", "input int / map 0 [ c0 1 add ] / map 1 [ c0 2 mul ] / map 0 [ c0 1 add 2 mul ] / count 3 1 / count 2 1 / concat 4 5 / out 6",
		"input int / map 0 [ c0 1 add 2 mul ] / count 1 1 / concat 2 2 / out 3", 0, -1, 1, 1, 2, 2, 3)
	holdTuned(t, "by projects that came to be all", "input int str / project 0 1 0 / project 1 1 0 / distinct 2 / distinct 0 / concat 3 4 / out 5", "input int str / distinct 0 / concat 1 1 / out 2", 0, -1, 0, 1, 1, 2)
	holdTuned(t, "by concats of concats", "input int / negate 0 / concat 0 1 / concat 2 0 / concat 0 1 0 / join 3 4 1 / out 5", "input int / negate 0 / concat 0 1 0 / join 2 2 1 / out 3", 0, 1, -1, 2, 2, 3)
	holdTuned(t, "negates of what came to be all", "input int str / negate 0 / project 1 1 0 / project 2 1 0 / negate 3 / distinct 4 / out 5", "input int str / distinct 0 / out 1", 0, -1, -1, -1, 0, 1)
	holdTuned(t, "distincts of what came to be all", "input int str / distinct 0 / project 1 1 0 / project 2 1 0 / distinct 3 / project 4 1 0 / project 5 1 0 / distinct 6 / out 7", "input int str / distinct 0 / out 1", 0, 1, -1, 1, 1, -1, 1, 1)
	holdTuned(t, "each round one more", "input int str / project 0 1 0 / project 1 1 0 / filter 2 [ 1 ] / map 3 [ c0 1 add ] / concat 4 / map 5 [ c0 2 mul ] / map 0 [ c0 1 add 2 mul ] / count 6 1 / count 7 1 / join 8 9 2 / project 10 0 1 / out 11",
		"input int str / map 0 [ c0 1 add 2 mul ] / count 1 1 / join 2 2 2 / out 3", 0, -1, 0, 0, -1, -1, 1, 1, 2, 2, 3, 3)
	holdTuned(t, "concats of what came to be concats", "input int str / negate 0 / concat 0 1 / project 2 1 0 / project 3 1 0 / concat 4 1 / concat 0 1 1 / out 5 / out 6", "input int str / negate 0 / concat 0 1 1 / out 2 / out 2", 0, 1, -1, -1, -1, 2, 2)
}

// inRounds is the text of an input and nodes behind it, the last of which is stood for by the input only so many rounds later:
// two projects do so in the next round, and let two negates around them be stood for, which lets two projects around these be one, and so on.
func inRounds(count int) string {
	s, last := "input int str", 0
	add := func(line string) {
		s += fmt.Sprintf(" / "+line, last)
		last++
	}
	for range count - 1 {
		add("project %d 1 0")
		add("negate %d")
	}
	add("project %d 1 0")
	for range count - 1 {
		add("project %d 1 0")
		add("negate %d")
	}
	add("project %d 1 0")
	return s + fmt.Sprint(" / out ", last)
}

func TestManyRounds(t *testing.T) { // P31.1: until a round changes nothing, however many that are
	for count := 1; count <= 16; count++ {
		p := parsed(inRounds(count))
		q, at, e := tune.Tune(p)
		if e != api.OK || !alike(q, parsed("input int str / out 0")) || at[len(at)-1] != 0 {
			t.Fatalf("%d rounds: %s of %s, %v", count, brief(q), brief(p), at)
		}
		holdAll(t, fmt.Sprint(count, " rounds"), p)
		holdAll(t, fmt.Sprint(count, " rounds, in another order"), mixed(newChance(count), p))
	}
}

func TestWhichStands(t *testing.T) { // P31.1: an earlier one in the order, which is not always the one with the lesser number
	holdTuned(t, "the first in the order has the greater number", "distinct 3 / input int / distinct 1 / negate 4 / negate 1 / out 0", "input int / distinct 0 / out 1", 1, 0, 1, 0, -1)
	holdTuned(t, "and the lesser one, where nothing leads elsewhere", "input int / distinct 0 / negate 4 / distinct 2 / negate 0 / distinct 0 / out 5", "input int / distinct 0 / out 1", 0, 1, 0, 1, -1, 1)
	holdTuned(t, "negates and what they feed", "distinct 2 / distinct 3 / negate 4 / input int / negate 3 / negate 2 / distinct 5 / out 0 / out 6",
		"distinct 1 / input int / negate 1 / distinct 2 / out 0 / out 3", 0, 0, 1, 1, 2, 2, 3)
	holdTuned(t, "numbers ahead of their Ins", "distinct 2 / count 0 1 / filter 3 [ 1 ] / concat 4 / input int / distinct 4 / count 5 1 / join 1 6 1 / out 7",
		"distinct 2 / count 0 1 / input int / join 1 1 1 / out 3", 0, 1, 2, 2, 2, 0, 1, 3)
}

func TestWhatIsLeftOut(t *testing.T) { // P31.1: all nodes to which no out and no arrangement comes by Ins
	holdTuned(t, "a whole branch", "input int / negate 0 / distinct 1 / count 2 1 / consolidate 0 / out 4", "input int / consolidate 0 / out 1", 0, -1, -1, -1, 1)
	holdTuned(t, "inputs stay", "input int / input str / negate 1 / input / negate 0 / out 4", "input int / input str / input / negate 0 / out 3", 0, 1, -1, 2, 3)
	holdTuned(t, "an arrangement stays", "input int / arrange 0 1 / out 0", "input int / arrange 0 1 / out 0", 0, 1)
	holdTuned(t, "and what it is fed by", "input int / negate 0 / distinct 1 / arrange 2 0 / count 3 1 / negate 2 / out 0", "input int / negate 0 / distinct 1 / arrange 2 0 / out 0", 0, 1, 2, 3, -1, -1)
	holdTuned(t, "arrangements of arrangements", "input int / arrange 0 0 / arrange 1 0 / arrange 2 0 / out 0", "input int / arrange 0 0 / arrange 1 0 / arrange 2 0 / out 0", 0, 1, 2, 3)
	holdTuned(t, "two arrangements that are Same", "input int / concat 0 / arrange 1 1 / arrange 0 1 / arrange 0 0 / out 0", "input int / arrange 0 1 / arrange 0 0 / out 0", 0, 0, 1, 1, 2)
	holdTuned(t, "two that come to be Same", "input int str / project 0 1 0 / project 1 1 0 / arrange 2 1 / arrange 0 1 / negate 3 / negate 4 / out 6", "input int str / arrange 0 1 / negate 1 / out 2", 0, -1, 0, 1, 1, 2, 2)
	holdTuned(t, "stood for by what leads nowhere", "input int / count 0 1 / count 0 1 / out 2", "input int / count 0 1 / out 1", 0, 1, 1)
	holdTuned(t, "no out, and stood for", "input int / negate 0 / negate 1 / concat 0 / out 0", "input int / out 0", 0, -1, 0, 0)
	holdTuned(t, "no out, and stood for by one that leads nowhere", "input int / count 0 1 / count 0 1 / concat 2 / out 0", "input int / out 0", 0, -1, -1, -1)
	holdTuned(t, "numbers behind", "negate 5 / input int / negate 1 / distinct 4 / input int / negate 7 / negate 0 / concat 4 / min 1 0 / out 3 / out 8", "input int / distinct 2 / input int / min 0 0 / out 1 / out 3", 2, 0, -1, 1, 2, -1, -1, 2, 3)
}

// gadgets are, by the name of a rule, lines of which something is to be done, each fed by "@", with the numbers "#" and those behind it for their own.
func gadgets() map[string][]string {
	return map[string][]string{
		"negates":                {"negate @", "negate #0"},
		"a concat of one":        {"concat @"},
		"consolidates":           {"consolidate @", "consolidate #0"},
		"distincts":              {"distinct @", "distinct #0"},
		"a filter":               {"filter @ [ 7 ]"},
		"a project of all":       {"project @ 0 1"},
		"two that are Same":      {"filter @ [ c0 ]", "filter @ [ c0 ]", "concat #0 #1"},
		"a project of a project": {"project @ 1 0 1", "project #0 1 1"},
		"a map of a map":         {"map @ [ c1 1 add ] [ c0 ]", "map #0 [ c1 ] [ c0 c1 min ]"},
		"a concat of a concat":   {"concat @ @", "concat #0 @"},
		"arrangements":           {"arrange @ 1", "arrange @ 1", "concat #0 #1"},
		"left out":               {"negate @", "count @ 1", "distinct @"},
	}
}

// laid is the text of an input with these gadgets, one behind the other.
func laid(names ...string) string {
	s, at, next := "input int int", 0, 1
	for _, name := range names {
		first := next
		for _, line := range gadgets()[name] {
			line = strings.ReplaceAll(line, "@", fmt.Sprint(at))
			for i := range 3 {
				line = strings.ReplaceAll(line, fmt.Sprint("#", i), fmt.Sprint(first+i))
			}
			s += " / " + line
			next++
		}
		at = next - 1
	}
	return s + fmt.Sprint(" / out ", at)
}

func TestRulesBehindOneAnother(t *testing.T) { // P31.1, P31.3: each rule with every other one, one behind the other
	for a := range gadgets() {
		holdAll(t, a, parsed(laid(a)))
		for b := range gadgets() {
			holdAll(t, a+", "+b, parsed(laid(a, b)))
			for c := range gadgets() {
				p := parsed(laid(a, b, c, a))
				holdAll(t, strings.Join([]string{a, b, c}, ", "), p)
				holdAll(t, "with other numbers", mixed(newChance(len(a)+len(b)*7+len(c)*31), p))
			}
		}
	}
	for name, want := range map[string]int{"negates": 1, "a concat of one": 1, "a filter": 1, "a project of all": 1,
		"consolidates": 2, "distincts": 2, "a project of a project": 2, "a map of a map": 2, "a concat of a concat": 2, "left out": 2, "two that are Same": 3, "arrangements": 3} {
		if q, _, _ := tune.Tune(parsed(laid(name))); len(q.Nodes) != want {
			t.Errorf("%s: %s, want %d nodes", name, brief(q), want)
		}
	}
}

// tree is a node's text, with those of its Ins in it. Inputs are told apart by their Kinds.
func tree(p api.Plan, node int) string {
	n := p.Nodes[node]
	ins := ""
	for _, in := range n.Ins {
		ins += "(" + tree(p, in) + ")"
	}
	n.Ins = nil
	return fmt.Sprintf("%d %v %v %v %d %d %d %d%s", n.Kind, n.Kinds, n.Exprs, n.Cols, n.Key, n.N, n.Size, n.Slide, ins)
}

func TestOtherOrders(t *testing.T) { // P31.1: the same plan with its nodes in other orders, some ahead of their Ins
	p := parsed("input int str / input int int / input str / negate 0 / negate 3 / project 4 1 0 / project 5 1 0 / map 1 [ c0 c1 add ] [ c0 ] / map 7 [ c0 c0 mul ] / map 1 [ c0 c1 add c0 c1 add mul ]" +
		" / distinct 8 / distinct 9 / distinct 11 / concat 10 / concat 13 12 / concat 14 11 / filter 15 [ -5 ] / consolidate 16 / consolidate 17 / arrange 6 1 / arrange 0 1 / join 18 18 1 / join 17 17 1" +
		" / count 19 1 / count 20 1 / negate 2 / filter 2 [ c0 len ] / bucket 6 0 4 2 / bucket 0 0 4 2 / top 28 1 3 / top 27 1 3 / out 21 / out 22 / out 23 / out 24 / out 26 / out 29 / out 30")
	q, _, _ := tune.Tune(p)
	if len(q.Nodes) != 13 || q.Outs[0] != q.Outs[1] || q.Outs[2] != q.Outs[3] || q.Outs[5] != q.Outs[6] {
		t.Fatalf("%s", brief(q))
	}
	for seed := range 300 {
		other := mixed(newChance(seed), p)
		holdAll(t, fmt.Sprint("order ", seed), other)
		r, _, _ := tune.Tune(other)
		if len(r.Nodes) != len(q.Nodes) {
			t.Fatalf("order %d: %s of %s, want the nodes of %s", seed, brief(r), brief(other), brief(q))
		}
		for i := range q.Outs {
			if a, b := tree(q, q.Outs[i]), tree(r, r.Outs[i]); a != b {
				t.Fatalf("order %d: out %d is %s, then %s", seed, i, a, b)
			}
		}
	}
}

func TestStandFor(t *testing.T) { // P31.1: a join, a bucket and each group of nodes that are stood for
	for _, line := range []string{"bucket @ 0 4 2", "count @ 1", "sum @ 1 0", "min @ 1", "max @ 1", "top @ 1 2", "distinct @", "arrange @ 1", "map @ [ c0 ]"} {
		line = strings.ReplaceAll(line, "@", "4")
		given := "input int int / negate 0 / negate 1 / filter 2 [ 1 ] / concat 3 / " + line + " / out 5"
		holdTuned(t, line, given, "input int int / "+strings.Replace(line, "4", "0", 1)+" / out 1", 0, -1, 0, 0, 0, 1)
	}
	holdTuned(t, "a join", "input int / input int / concat 0 / filter 1 [ 1 ] / join 2 3 1 / join 3 2 0 / out 4 / out 5", "input int / input int / join 0 1 1 / join 1 0 0 / out 2 / out 3", 0, 1, 0, 1, 2, 3)
}

func TestFieldsThatAreNotUsed(t *testing.T) { // P31.1, P31.2: they make no difference, and stay with their node
	for name := range gadgets() {
		p := parsed(laid(name, "negates", "two that are Same", "distincts", "a map of a map"))
		q, at, _ := tune.Tune(p)
		full := filled(p)
		got, gone, e := tune.Tune(full)
		if e != api.OK || !slices.Equal(at, gone) || !alike(usedOnly(got), q) {
			t.Fatalf("%s: %s, %v, want %s, %v", name, brief(got), gone, brief(q), at)
		}
		holdAll(t, name, full)
	}
	a, b := filled(parsed("input int / count 0 1 / out 1")).Nodes[1], parsed("input int / count 0 1 / out 1").Nodes[1]
	p := planOf(input(num), a, b, concat(1, 2))
	q, at, _ := tune.Tune(p)
	if !slices.Equal(at, []int{0, 1, 1, 2}) || !alike(planOf(q.Nodes[1]), planOf(a)) {
		t.Errorf("%+v, %v", q, at)
	}
}

// filled is a plan with something in all fields that its nodes' kinds do not use.
func filled(p api.Plan) api.Plan {
	p = clone(p)
	for i := range p.Nodes {
		n := &p.Nodes[i]
		used := usedBy(n.Kind)
		if !slices.Contains(used, "Kinds") {
			n.Kinds = []int{i, 7}
		}
		if !slices.Contains(used, "Exprs") {
			n.Exprs = [][]api.Term{nil, of(op(i), number(i))}
		}
		if !slices.Contains(used, "Cols") {
			n.Cols = []int{-1, i}
		}
		for name, field := range map[string]*int{"Key": &n.Key, "N": &n.N, "Size": &n.Size, "Slide": &n.Slide} {
			if !slices.Contains(used, name) {
				*field = 70 + i
			}
		}
	}
	return p
}

func TestSame(t *testing.T) { // P31.2: of each kind with each field changed, those that the kind uses and those that it does not
	whole := api.Node{Ins: []int{1}, Kinds: []int{0, 1}, Exprs: exprs("c0 2 mul | 'a"), Cols: []int{1, 0}, Key: 1, N: 2, Size: 3, Slide: 4}
	changes := map[string][]func(n *api.Node){
		"Kind": {func(n *api.Node) { n.Kind = (n.Kind + 1) % api.Nodes }, func(n *api.Node) { n.Kind = -1 }, func(n *api.Node) { n.Kind = api.Nodes }},
		"Ins":  {func(n *api.Node) { n.Ins = []int{2} }, func(n *api.Node) { n.Ins = nil }, func(n *api.Node) { n.Ins = []int{1, 1} }, func(n *api.Node) { n.Ins = []int{-1} }},
		"Kinds": {func(n *api.Node) { n.Kinds = []int{0, 0} }, func(n *api.Node) { n.Kinds = nil }, func(n *api.Node) { n.Kinds = []int{0} }, func(n *api.Node) { n.Kinds = []int{0, 1, 0} },
			func(n *api.Node) { n.Kinds = []int{1, 0} }},
		"Exprs": {func(n *api.Node) { n.Exprs = nil }, func(n *api.Node) { n.Exprs = exprs("c0 2 mul") }, func(n *api.Node) { n.Exprs = exprs("'a | c0 2 mul") }, func(n *api.Node) { n.Exprs = exprs("c0 2 mul | 'b") },
			func(n *api.Node) { n.Exprs = exprs("c0 3 mul | 'a") }, func(n *api.Node) { n.Exprs = exprs("c1 2 mul | 'a") }, func(n *api.Node) { n.Exprs = exprs("c0 2 add | 'a") },
			func(n *api.Node) { n.Exprs = exprs("c0 2 | 'a") }, func(n *api.Node) { n.Exprs = exprs("c0 2 mul neg | 'a") }, func(n *api.Node) { n.Exprs = exprs("c0 2 mul | 'a | 'a") },
			func(n *api.Node) { n.Exprs = append(exprs("c0 2 mul"), nil) }, func(n *api.Node) { n.Exprs = exprs("c0 2 mul 'a") }, func(n *api.Node) { n.Exprs = exprs("c0 2 | mul 'a") }},
		"Cols": {func(n *api.Node) { n.Cols = []int{0, 1} }, func(n *api.Node) { n.Cols = nil }, func(n *api.Node) { n.Cols = []int{1} }, func(n *api.Node) { n.Cols = []int{1, 0, 0} }},
		"Key":  {func(n *api.Node) { n.Key = 0 }, func(n *api.Node) { n.Key = low }, func(n *api.Node) { n.Key = high }},
		"N":    {func(n *api.Node) { n.N = 0 }, func(n *api.Node) { n.N = -2 }, func(n *api.Node) { n.N = high }},
		"Size": {func(n *api.Node) { n.Size = 0 }, func(n *api.Node) { n.Size = 4 }}, "Slide": {func(n *api.Node) { n.Slide = 0 }, func(n *api.Node) { n.Slide = 3 }},
	}
	for kind := range api.Nodes {
		a := cloneNode(whole)
		a.Kind = kind
		holdSame(t, "all alike", a, cloneNode(a), true)
		for field, l := range changes {
			for i, change := range l {
				b := cloneNode(a)
				change(&b)
				name := fmt.Sprint("kind ", kind, ": ", field, ", ", i)
				holdSame(t, name, a, b, !slices.Contains(usedBy(kind), field))
				if askedSame(a, b) != tune.Same(a, b) {
					t.Fatalf("%s: the words say otherwise", name)
				}
			}
		}
	}
	holdSame(t, "nil and empty lists", api.Node{Kind: api.NodeMap, Exprs: [][]api.Term{nil}}, api.Node{Kind: api.NodeMap, Ins: []int{}, Exprs: [][]api.Term{{}}}, true)
	holdSame(t, "nil and empty Kinds", api.Node{}, api.Node{Ins: []int{}, Kinds: []int{}, Cols: []int{}, Exprs: [][]api.Term{}}, true)
	holdSame(t, "nil and empty Cols", api.Node{Kind: api.NodeProject}, api.Node{Kind: api.NodeProject, Cols: []int{}}, true)
	holdSame(t, "an empty expression more", api.Node{Kind: api.NodeMap}, api.Node{Kind: api.NodeMap, Exprs: [][]api.Term{{}}}, false)
	holdSame(t, "two inputs", input(num, text), input(num, text), true)
	holdSame(t, "an input with an in", input(num), api.Node{Kinds: []int{num}, Ins: []int{0}}, false)
	holdSame(t, "joins turned round", joins(0, 1, 1), joins(1, 0, 1), false)
	holdSame(t, "concats turned round", concat(0, 1, 1), concat(1, 0, 1), false)
	holdSame(t, "buckets that are alike", bucket(0, 1, 2, 3), bucket(0, 1, 2, 3), true)
	holdSame(t, "filters of two expressions", filter(0, of(col(0)), of(col(1))), filter(0, of(col(0)), of(col(2))), false)
	holdSame(t, "texts alone", mapped(0, of(quoted("a"))), mapped(0, of(quoted("a\x00"))), false)
}

func TestFuse(t *testing.T) { // P31.2: with each step
	l := exprs("c0 2 mul | c1 'a cat | 7")
	for _, c := range []struct{ m, want string }{
		{"c0", "c0 2 mul"}, {"c1", "c1 'a cat"}, {"c2", "7"}, {"5", "5"}, {"'x", "'x"}, {"c0 c2 add", "c0 2 mul 7 add"}, {"c0 c2 sub", "c0 2 mul 7 sub"}, {"c2 c0 mul", "7 c0 2 mul mul"}, {"c0 1 div", "c0 2 mul 1 div"},
		{"c0 3 mod", "c0 2 mul 3 mod"}, {"c0 neg", "c0 2 mul neg"}, {"c0 c0 eq", "c0 2 mul c0 2 mul eq"}, {"c1 'b less", "c1 'a cat 'b less"}, {"c2 not", "7 not"}, {"c0 1 and", "c0 2 mul 1 and"}, {"1 c0 or", "1 c0 2 mul or"},
		{"c0 c1 'z if", "c0 2 mul c1 'a cat 'z if"}, {"c1 len", "c1 'a cat len"}, {"c1 c1 cat", "c1 'a cat c1 'a cat cat"}, {"c0 c2 min", "c0 2 mul 7 min"}, {"c1 'b max", "c1 'a cat 'b max"},
		{"c2 | c1 | c0", "7 | c1 'a cat | c0 2 mul"}, {"c0 | c0 | c0", "c0 2 mul | c0 2 mul | c0 2 mul"}, {"1 | 2", "1 | 2"},
	} {
		holdFused(t, c.m, l, exprs(c.m), exprs(c.want), true)
	}
	holdFused(t, "no m", l, nil, nil, true)
	holdFused(t, "no m and no l", nil, nil, nil, true)
	holdFused(t, "no l, and no column", nil, exprs("1 | 'a"), exprs("1 | 'a"), true)
	holdFused(t, "columns of columns", exprs("c5 | c0 | c9223372036854775807"), exprs("c1 c0 c2"), exprs("c0 c5 c9223372036854775807"), true)
	beside := [][]api.Term{of(api.Term{Op: api.OpInt, Int: 3, Str: "b"}, api.Term{Op: api.OpNeg, Int: 5, Str: "c"})}
	holdFused(t, "what stands beside", beside, [][]api.Term{of(api.Term{Op: api.OpCol, Int: 0, Str: "d"}, api.Term{Op: api.OpNot, Int: 9})}, [][]api.Term{of(beside[0][0], beside[0][1], api.Term{Op: api.OpNot, Int: 9})}, true)
}

func TestFuseAtItsLimits(t *testing.T) { // P31.2: MaxTerms steps, MaxStack values at once
	for steps := 62; steps <= 66; steps++ {
		l := [][]api.Term{append(of(col(0)), many(steps-2, op(api.OpNeg))...)}
		want := [][]api.Term{append(slices.Clone(l[0]), op(api.OpNot))}
		holdFusedIf(t, fmt.Sprint(steps, " steps"), l, exprs("c0 not"), want, steps <= 64)
		holdFusedIf(t, fmt.Sprint(steps, " steps of m alone"), exprs("5"), [][]api.Term{append(of(number(1)), many(steps-1, op(api.OpNeg))...)}, [][]api.Term{append(of(number(1)), many(steps-1, op(api.OpNeg))...)}, steps <= 64)
		holdFusedIf(t, fmt.Sprint(steps, " steps in the last one"), append(l, of(col(1))), exprs("c1 | 3 | c0 not"), [][]api.Term{of(col(1)), of(number(3)), want[0]}, steps <= 64)
	}
	holdFused(t, "too long, and not asked for", [][]api.Term{many(100, number(1)), of(col(4))}, exprs("c1 | 3"), exprs("c4 | 3"), true)
	holdFused(t, "too long in l, no column behind it", [][]api.Term{many(65, op(api.OpNeg))}, exprs("c0"), nil, false)
	for high := 14; high <= 19; high++ {
		tower := append(many(high, col(0)), many(high-1, op(api.OpAdd))...)
		holdFusedIf(t, fmt.Sprint(high, " values"), [][]api.Term{tower}, exprs("c0"), [][]api.Term{tower}, high <= 16)
		holdFusedIf(t, fmt.Sprint(high, " values of m"), exprs("c0"), [][]api.Term{tower}, [][]api.Term{tower}, high <= 16)
		holdFusedIf(t, fmt.Sprint(high, " and two below"), [][]api.Term{tower}, exprs("1 2 c0 add add"), [][]api.Term{slices.Concat(of(number(1), number(2)), tower, of(op(api.OpAdd), op(api.OpAdd)))}, high+2 <= 16)
		holdFusedIf(t, fmt.Sprint(high, " and one above"), [][]api.Term{tower}, exprs("c0 1 2 add add"), [][]api.Term{slices.Concat(tower, of(number(1), number(2), op(api.OpAdd), op(api.OpAdd)))}, high <= 16)
		ifs := append(many(high, number(1)), many(high/2, op(api.OpIf))...)
		holdFusedIf(t, fmt.Sprint(high, " values for ifs"), [][]api.Term{ifs}, exprs("c0"), [][]api.Term{ifs}, high <= 16)
		one := slices.Concat(many(high-1, number(1)), of(op(api.OpNot), op(api.OpNeg), number(2)), many(high-1, op(api.OpMul)))
		holdFusedIf(t, fmt.Sprint(high, " values, and steps that take one"), [][]api.Term{one}, exprs("c0"), [][]api.Term{one}, high <= 16)
		texts := slices.Concat(many(high, quoted("a")), many(high-1, op(api.OpCat)), of(op(api.OpLen)))
		holdFusedIf(t, fmt.Sprint(high, " texts"), [][]api.Term{texts}, exprs("c0"), [][]api.Term{texts}, high <= 16)
	}
}

func TestHeightOfEachStep(t *testing.T) { // P31.2: how many values each step takes
	takes := map[string]int{"add": 2, "sub": 2, "mul": 2, "div": 2, "mod": 2, "neg": 1, "eq": 2, "less": 2, "not": 1, "and": 2, "or": 2, "if": 3, "len": 1, "cat": 2, "min": 2, "max": 2, "c0": 0, "5": 0, "'a": 0}
	for step, count := range takes {
		// with so many values ahead of the step, just so many may come behind it
		free := 16 - (15 - count + 1)
		for more := free; more <= free+1; more++ {
			m := exprs("1" + strings.Repeat(" 1", 14) + " " + step + strings.Repeat(" 2", more))
			want := slices.Clone(m)
			if step == "c0" {
				want = exprs("1" + strings.Repeat(" 1", 14) + " 9" + strings.Repeat(" 2", more))
			}
			holdFusedIf(t, fmt.Sprint(step, " and ", more), exprs("9"), m, want, more == free)
		}
	}
	if len(takes) != api.Ops {
		t.Errorf("%d steps of %d", len(takes), api.Ops)
	}
}

func holdFusedIf(t *testing.T, name string, l, m, want [][]api.Term, ok bool) {
	t.Helper()
	if !ok {
		want = nil
	}
	holdFused(t, name, l, m, want, ok)
}

func TestWordsOfTunedPlans(t *testing.T) { // P31.3: q may be a plan: it is printed, and parsed as it was
	for name := range gadgets() {
		q, _, _ := tune.Tune(parsed(laid(name, "a map of a map", name)))
		b, e := words.Print(q)
		p, fault, _ := words.Parse(b)
		if e != api.OK || fault != api.OK || !alike(p, q) {
			t.Errorf("%s: %s, %d; %s, %d", name, b, int(e), brief(p), int(fault))
		}
		if e, at := plan.Check(q); e != api.OK {
			t.Errorf("%s: %d at %d", name, int(e), at)
		}
	}
}

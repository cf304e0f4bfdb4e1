package whole_test

import (
	"fmt"
	"slices"
	"testing"

	"runnel/api"
	"runnel/audit"
	"runnel/change"
	"runnel/deno"
	"runnel/journal"
	"runnel/plan"
	"runnel/tune"
	"runnel/view"
	"runnel/words"
	"runnel/zset"
)

func TestWhatItMeans(t *testing.T) { // E1: drawn scripts of bytes, of all kinds of nodes
	kinds, closed, some := make([]int, api.Nodes), 0, 0
	for i := range 150 {
		_, s := drawLife(t, i, 9, 80, drawDiff)
		closed += s.holds(t, grid(8)...)
		for _, n := range s.p.Nodes {
			kinds[n.Kind]++
		}
		for _, n := range s.told.Notes {
			if n.IsUp {
				some++
			}
		}
	}
	if slices.Min(kinds) < 25 || closed < 3000 || some < 2000 {
		t.Errorf("kinds %v, %d closed, %d changes", kinds, closed, some)
	}
}

func TestWhatEachBeginningMeans(t *testing.T) { // E1: the first commands of a script, however many, of what these inserted; what they tell is told first by all
	closed, ahead := 0, 0
	for i := range 12 {
		x, s := drawLife(t, 1000+i, 6, 60, drawDiff)
		if len(s.p.Nodes) > 12 {
			continue // each beginning of it takes long
		}
		for j, b := range beginnings(t, s.bytes) {
			cut := liveBytes(t, fmt.Sprintf("%s, the first %d", s.name, j), b)
			closed += cut.holds(t, pair(x.below(5), x.below(5)), pair(x.below(9), x.below(9)), pair(0, 0))
			if len(cut.p.Nodes) == 0 {
				ahead++
			}
			told := api.Told{Notes: s.told.Notes[:len(cut.told.Notes)], Codes: s.told.Codes[:j], Peeks: s.told.Peeks[:len(cut.told.Peeks)]}
			if !sameTold(cut.told, told) {
				t.Fatalf("%s: it is told otherwise", cut.name)
			}
		}
	}
	if closed < 600 || ahead < 12 {
		t.Errorf("%d closed, %d ahead of a plan", closed, ahead)
	}
}

func TestWhatItMeansWhereItFailed(t *testing.T) { // E1: at the frontiers that were told ahead of it, of what was inserted until then, in each beginning
	failed, closed := 0, 0
	for i := range 120 {
		x := chance(2000 + i)
		p := drawPlan(&x, 3+x.below(7))
		s := live(t, fmt.Sprintf("script %d of %s", i, brief(p)), append(drawScript(&x, p, 40, drawDiff), drawTail(&x, p)...))
		if slices.Contains(s.told.Codes, api.ErrFailed) {
			failed++
		}
		closed += s.holds(t, grid(7)...)
		if i%20 == 0 && len(p.Nodes) < 12 {
			for _, b := range beginnings(t, s.bytes) {
				closed += liveBytes(t, s.name+", cut", b).holds(t, pair(x.below(4), x.below(4)))
			}
		}
	}
	if failed < 30 || closed < 1500 {
		t.Errorf("%d failed, %d closed", failed, closed)
	}
}

// drawTail are commands behind a script: inserts of numbers that are great, at times that are far behind, and turns.
func drawTail(x source, p api.Plan) []api.Cmd {
	var l []api.Cmd
	for range 12 {
		in := anyOf(x, ofKind(p, api.NodeInput)...)
		u := api.Up{Row: drawRow(x, p.Nodes[in].Kinds), Time: pair(90+x.below(2), 90+x.below(2)), Diff: drawGreat(x)}
		for j, v := range u.Row {
			if v.Kind == ints && x.below(3) == 0 {
				u.Row[j].Int = anyOf(x, low, high, 1<<62)
			}
		}
		l = append(l, insert(in, u))
		for at := range p.Nodes {
			l = append(l, step(at, anyOf(x, 1, 5, 50)))
		}
		if x.below(6) == 0 {
			l = append(l, advance(in, pair(91, 0), pair(90, 91)), advance(in))
		}
	}
	return l
}

func TestReadByAView(t *testing.T) { // E1: a log that is told as bytes, read by a view as it comes, with work and what is forgotten in between; and a log that is tidied
	closed, between, tidied := 0, 0, 0
	for i := range 120 {
		x, s := drawLife(t, 3000+i, 8, 80, drawDiff)
		outs := len(s.p.Outs)
		b, e := change.Encode(s.told.Notes)
		notes, f, at := change.Decode(b)
		if e != api.OK || f != api.OK || at != len(b) || !sameNotes(notes, s.told.Notes) {
			t.Fatalf("%s: the log: errors %d, %d at %d of %d", s.name, int(e), int(f), at, len(b))
		}
		v, _ := view.New(outs, 0)
		for _, n := range notes {
			if e := v.Apply(n); e != api.OK {
				t.Fatalf("%s: %s is not read: %d", s.name, brief(n), int(e))
			}
			v.Work(x.below(3))
		}
		var since []api.Time
		for out := range outs {
			last, _ := v.Front(out)
			for _, t := range last {
				since = append(since, pair(max(0, t.Epoch-x.below(4)), max(0, t.Round-x.below(4))))
			}
		}
		since = least(append(since, pair(1+x.below(2), 1+x.below(2))))
		forgets := v.Forget(since) == api.OK
		v.Work(1000)
		short, e := change.Tidy(outs, notes, since)
		for _, when := range grid(6) {
			want, meaning := deno.At(s.p, s.lists(), when)
			for out := range outs {
				last, _ := v.Front(out)
				if advanced(last, when) || meaning != api.OK || forgets && !advanced(since, when) {
					continue
				}
				if got, e := v.At(out, when); e != api.OK || !sameCounts(got, want[out]) {
					t.Fatalf("%s: a view of out %d at %v: %s, error %d; the plan means %s", s.name, out, when, brief(got), int(e), brief(want[out]))
				}
				closed++
				if e == api.OK && advanced(since, when) {
					tidied++
					if got, e := change.At(outs, out, short, when); e != api.OK || !sameCounts(got, want[out]) {
						t.Fatalf("%s: tidied, out %d at %v: %s, error %d; the plan means %s", s.name, out, when, brief(got), int(e), brief(want[out]))
					}
				}
				before := pair(when.Epoch/2, when.Round/2)
				first, f := v.At(out, before)
				more, g := v.Between(out, before, when)
				if f != api.OK || g != api.OK {
					continue
				}
				if less, _ := zset.Less(want[out], first); !sameCounts(more, less) {
					t.Fatalf("%s: out %d between %v and %v: %s, want %s", s.name, out, before, when, brief(more), brief(less))
				}
				between++
			}
		}
	}
	if closed < 1000 || between < 500 || tidied < 300 {
		t.Errorf("%d closed, %d between, %d tidied", closed, between, tidied)
	}
}

// ofPlan are the commands of a script with another plan, whose nodes and outs are told of each by at.
func ofPlan(cmds []api.Cmd, p api.Plan, at []int) []api.Cmd {
	var l []api.Cmd
	for _, c := range cmds {
		switch c.Do {
		case api.CmdInstall:
			if len(l) > 0 && l[0].Do == api.CmdInstall {
				continue
			}
			c = install(p)
		case api.CmdPoll:
			continue
		default:
			if c.Node < 0 || c.Node >= len(at) || at[c.Node] < 0 {
				continue
			}
			c.Node = at[c.Node]
		}
		l = append(l, c)
	}
	return l
}

// done are the commands of a script that were done, the steps among them.
func (s *life) done() []api.Cmd {
	var l []api.Cmd
	for i, c := range s.cmds {
		if s.told.Codes[i] == api.OK {
			l = append(l, c)
		}
	}
	return l
}

// closing are commands by which all is settled: each input is closed, and each node has turns.
func closing(p api.Plan, rounds int) []api.Cmd {
	var l []api.Cmd
	for _, in := range plan.Inputs(p) {
		l = append(l, advance(in))
	}
	return append(l, turns(p, rounds)...)
}

func turns(p api.Plan, rounds int) []api.Cmd {
	var l []api.Cmd
	for range rounds {
		for at := range p.Nodes {
			l = append(l, step(at, 50))
		}
	}
	return l
}

func TestTunedPlans(t *testing.T) { // E1: the same script of a plan that was tuned first: what comes is what the plan means that was not
	shorter, closed, both := 0, 0, 0
	for i := range 120 {
		x := chance(4000 + i)
		p := drawPlan(&x, 4+x.below(9))
		q, at, e := tune.Tune(p)
		if e != api.OK {
			t.Fatalf("plan %d: error %d", i, int(e))
		}
		if len(q.Nodes) < len(p.Nodes) {
			shorter++
		}
		first := live(t, fmt.Sprintf("script %d of %s", i, brief(p)), drawScript(&x, p, 60, drawDiff))
		second := live(t, first.name+", tuned", slices.Concat(ofPlan(first.done(), q, at), turns(q, 3)))
		closed += means(t, second.name, p, first.lists(), second.told.Notes, grid(7)...)
		both += alike(t, first, second, grid(7)...)
		for _, when := range grid(3) {
			var there [][]api.Count
			for _, l := range first.lists() {
				has, _ := zset.At(l, when)
				there = append(there, has)
			}
			if out, of, e := audit.Agree(p, q, there); e != api.ErrNone {
				t.Fatalf("%s: tuned it differs at out %d in %v: %d", first.name, out, of, int(e))
			}
		}
	}
	if shorter < 60 || closed < 2500 || both < 2000 {
		t.Errorf("%d were shorter, %d closed, %d in both", shorter, closed, both)
	}
}

func TestPlansThatComeAsTexts(t *testing.T) { // E1: a plan that is printed, and parsed, is told the same
	closed := 0
	for i := range 80 {
		x := chance(5000 + i)
		p := drawPlan(&x, 4+x.below(8))
		b, e := words.Print(p)
		q, f, at := words.Parse(b)
		if e != api.OK || f != api.OK || at != len(b) {
			t.Fatalf("plan %d: errors %d, %d at %d of %d", i, int(e), int(f), at, len(b))
		}
		cmds := drawScript(&x, p, 60, drawDiff)
		first := live(t, fmt.Sprintf("script %d of %s", i, brief(p)), cmds)
		for j, c := range cmds {
			if c.Do == api.CmdInstall && slices.Equal(c.Sheet, bytesOf(p)) {
				cmds[j] = install(q)
			}
		}
		second := live(t, first.name+", parsed", cmds)
		if !sameTold(first.told, second.told) {
			t.Fatalf("%s: as a text it is told otherwise", first.name)
		}
		closed += means(t, second.name, p, first.lists(), second.told.Notes, grid(6)...)
	}
	if closed < 1000 {
		t.Errorf("%d closed", closed)
	}
}

func TestBegunAnew(t *testing.T) { // E1: sessions that are begun anew from what was kept, or tidied; they go on
	closed, both, later, fewer := 0, 0, 0, 0
	for i := range 60 {
		x, first := drawLife(t, 6000+i, 8, 60, drawDiff)
		kept := journal.Keep(first.cmds)
		anew := live(t, first.name+", begun anew", slices.Concat(kept, turns(first.p, 12)))
		closed += anew.holds(t, grid(6)...)
		both += alike(t, first, anew, grid(6)...)

		fronts, _ := journal.Fronts(first.cmds)
		var all []api.Time
		for _, in := range plan.Inputs(first.p) {
			all = append(all, fronts[in]...)
		}
		if len(all) == 0 {
			all = times(pair(2, 2))
		}
		since := least(shuffled(x, all)) // at or ahead of all of them
		tidy, e := journal.Tidy(first.cmds, since)
		if e != api.OK {
			t.Fatalf("%s: error %d at %v", first.name, int(e), since)
		}
		if len(tidy) < len(kept) {
			fewer++
		}
		end := slices.Concat(drawMore(x, first.p, fronts), closing(first.p, 12))
		longer := live(t, first.name+", longer", slices.Concat(first.cmds, end))
		short := live(t, first.name+", tidied", slices.Concat(tidy, end))
		closed += longer.holds(t, grid(6)...)
		for _, when := range grid(7) {
			if advanced(since, when) {
				later += means(t, short.name, longer.p, longer.lists(), short.told.Notes, when)
			}
		}
	}
	if closed < 2500 || both < 600 || later < 250 || fewer < 20 {
		t.Errorf("%d closed, %d in both, %d in advance of what was tidied, %d fewer", closed, both, later, fewer)
	}
}

// drawMore are inserts behind the frontiers of the inputs.
func drawMore(x source, p api.Plan, fronts map[int][]api.Time) []api.Cmd {
	var l []api.Cmd
	for range 8 {
		in := anyOf(x, ofKind(p, api.NodeInput)...)
		if len(fronts[in]) > 0 {
			l = append(l, insert(in, api.Up{Row: drawRow(x, p.Nodes[in].Kinds), Time: drawTime(x, fronts[in]), Diff: drawDiff(x)}))
		}
	}
	return l
}

func TestWithoutARow(t *testing.T) { // E1, and what audit says: a script without the inserts of a row comes to what What tells less
	told, some := 0, 0
	for i := range 60 {
		x := chance(7000 + i)
		p := drawPlan(&x, 3+x.below(6))
		cmds := append(drawScript(&x, p, 40, drawDiff), closing(p, 15)...)
		all := live(t, fmt.Sprintf("script %d of %s", i, brief(p)), cmds)
		for place, in := range plan.Inputs(p) {
			if len(all.came[in]) == 0 {
				continue
			}
			gone := anyOf(&x, all.came[in]...).Row
			less := live(t, all.name+", without", slices.DeleteFunc(slices.Clone(cmds), func(c api.Cmd) bool {
				return c.Do == api.CmdInsert && c.Node == in && sameRow(c.Up.Row, gone)
			}))
			for _, when := range grid(6) {
				var there [][]api.Count
				for _, l := range all.lists() {
					has, _ := zset.At(l, when)
					there = append(there, has)
				}
				want, e := audit.What(p, there, place, gone)
				if e != api.OK {
					t.Fatalf("%s: error %d", all.name, int(e))
				}
				for out := range p.Outs {
					a, e := change.At(len(p.Outs), out, all.told.Notes, when)
					b, f := change.At(len(p.Outs), out, less.told.Notes, when)
					if e != api.OK || f != api.OK {
						continue
					}
					if got, _ := zset.Less(a, b); !sameCounts(got, want[out]) {
						t.Fatalf("%s: out %d at %v: with %v there is %s more, What tells %s", all.name, out, when, gone, brief(got), brief(want[out]))
					}
					told, some = told+1, some+len(want[out])
				}
			}
		}
	}
	if told < 3000 || some < 1500 {
		t.Errorf("%d told, in all %d rows", told, some)
	}
}

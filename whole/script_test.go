package whole_test

import (
	"fmt"
	"math/big"
	"slices"
	"testing"

	"runnel/api"
	"runnel/change"
	"runnel/deno"
	"runnel/num"
	"runnel/plan"
	"runnel/script"
	"runnel/sheet"
	"runnel/wire"
)

// life is what came of a script: of its bytes what it told, and by its codes alone which plan it has, and what was inserted.
type life struct {
	name  string
	cmds  []api.Cmd
	bytes []byte
	told  api.Told
	p     api.Plan // of no node, as long as none is installed
	came  map[int][]api.Up
}

// live runs a script as bytes.
func live(t *testing.T, name string, cmds []api.Cmd) *life {
	t.Helper()
	b, e := wire.Encode(cmds)
	if e != api.OK {
		t.Fatalf("%s: a script that cannot be told: %d", name, int(e))
	}
	return liveBytes(t, name, b)
}

func liveBytes(t *testing.T, name string, b []byte) *life {
	t.Helper()
	s := &life{name: name, bytes: b, came: map[int][]api.Up{}}
	s.cmds, _, _ = wire.Decode(b)
	told, e, at := script.Run(b)
	if e != api.OK || at != len(b) || len(told.Codes) != len(s.cmds) {
		t.Fatalf("%s: error %d at %d of %d bytes; %d answers to %d commands", name, int(e), at, len(b), len(told.Codes), len(s.cmds))
	}
	s.told = told
	for i, c := range s.cmds {
		if told.Codes[i] != api.OK {
			continue
		}
		switch c.Do {
		case api.CmdInstall:
			s.p, _ = sheet.Decode(c.Sheet)
		case api.CmdInsert:
			s.came[c.Node] = append(s.came[c.Node], c.Up)
		}
	}
	return s
}

// beginnings are the bytes of the first commands, of none of them up to all.
func beginnings(t *testing.T, b []byte) [][]byte {
	t.Helper()
	many, at, e := num.Get(b, 0)
	if e != api.OK {
		t.Fatalf("no number: %d", int(e))
	}
	first := at
	var l [][]byte
	for i := range many + 1 {
		l = append(l, append(num.Put(nil, uint64(i)), b[first:at]...))
		if i < many {
			if _, at, e = wire.Get(b, at); e != api.OK {
				t.Fatalf("no command: %d", int(e))
			}
		}
	}
	return l
}

// lists is what was inserted, as deno asks for it.
func (s *life) lists() [][]api.Up {
	var l [][]api.Up
	for _, at := range plan.Inputs(s.p) {
		l = append(l, s.came[at])
	}
	return l
}

// tally keeps how many there are of each row, by its text, with numbers of any length.
type tally map[string]*big.Int

// together is what came to an out until a time; over: a sum was too great on its way, as the changes stand.
func together(notes []api.Note, out int, at api.Time) (sums tally, over bool) {
	sums = tally{}
	for _, n := range notes {
		if !n.IsUp || n.Out != out || !isLessEq(n.Up.Time, at) {
			continue
		}
		key := rowName(n.Up.Row)
		if sums[key] == nil {
			sums[key] = new(big.Int)
		}
		sums[key].Add(sums[key], big.NewInt(int64(n.Up.Diff)))
		over = over || !sums[key].IsInt64()
	}
	return sums, over
}

// are: is that what there is?
func (a tally) are(l []api.Count) bool {
	some := 0
	for _, sum := range a {
		if sum.Sign() != 0 {
			some++
		}
	}
	return some == len(l) && !slices.ContainsFunc(l, func(c api.Count) bool {
		sum := a[rowName(c.Row)]
		return sum == nil || sum.Cmp(big.NewInt(int64(c.Diff))) != 0
	})
}

// means holds notes at times that are not in advance of an out's last frontier against what a plan makes of all that was inserted; how often one was closed. A time at which the plan's own meaning is too great is left out.
func means(t *testing.T, name string, p api.Plan, lists [][]api.Up, notes []api.Note, when ...api.Time) (closed int) {
	t.Helper()
	outs := len(p.Outs)
	var last [][]api.Time
	for out := range outs {
		frontier, e := change.Front(outs, out, notes)
		if e != api.OK {
			t.Fatalf("%s: no log: %d", name, int(e))
		}
		last = append(last, frontier)
	}
	open := func(at api.Time) bool {
		return !slices.ContainsFunc(last, func(f []api.Time) bool { return !advanced(f, at) })
	}
	for _, at := range slices.DeleteFunc(slices.Clone(when), open) {
		want, meaning := deno.At(p, lists, at)
		for out := range outs {
			if advanced(last[out], at) || meaning != api.OK {
				continue
			}
			sums, over := together(notes, out, at)
			if !sums.are(want[out]) {
				t.Fatalf("%s: out %d at %v: %s; the plan means %s", name, out, at, brief(sums), brief(want[out]))
			}
			if got, e := change.At(outs, out, notes, at); (e == api.ErrOver) != over || !over && (e != api.OK || !sameCounts(got, want[out])) {
				t.Fatalf("%s: out %d at %v is told as %s, error %d; the plan means %s", name, out, at, brief(got), int(e), brief(want[out]))
			}
			closed++
		}
	}
	return closed
}

// holds is means of all that the script told.
func (s *life) holds(t *testing.T, when ...api.Time) (closed int) {
	t.Helper()
	if len(s.p.Nodes) == 0 {
		if len(s.told.Notes) > 0 {
			t.Fatalf("%s: notes of no plan: %s", s.name, brief(s.told.Notes))
		}
		return 0
	}
	return means(t, s.name, s.p, s.lists(), s.told.Notes, when...)
}

// alike holds what two scripts tell of their outs, which mean the same, at times that are closed in both; how often that was.
func alike(t *testing.T, a, b *life, when ...api.Time) (closed int) {
	t.Helper()
	outs := len(a.p.Outs)
	for out := range outs {
		for _, at := range when {
			x, e := change.At(outs, out, a.told.Notes, at)
			y, f := change.At(outs, out, b.told.Notes, at)
			if e != api.OK || f != api.OK {
				continue
			}
			if !sameCounts(x, y) {
				t.Fatalf("%s, and %s: out %d at %v: %s, and %s", a.name, b.name, out, at, brief(x), brief(y))
			}
			closed++
		}
	}
	return closed
}

// drawLife is a script that is drawn, and run.
func drawLife(t *testing.T, seed, most, cmds int, diff func(source) int) (*chance, *life) {
	t.Helper()
	x := chance(seed)
	p := drawPlan(&x, 3+x.below(most))
	return &x, live(t, fmt.Sprintf("script %d of %s", seed, brief(p)), drawScript(&x, p, cmds, diff))
}

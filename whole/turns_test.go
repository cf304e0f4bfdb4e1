package whole_test

import (
	"fmt"
	"slices"
	"testing"

	"runnel/api"
	"runnel/deno"
	"runnel/engine"
	"runnel/fault"
	"runnel/spine"
)

// otherwise is a script that was run once more, with the inserts between advances in another order, and with other turns, fuels, compactions, peeks and polls.
func otherwise(x source, s *life) []api.Cmd {
	var l, together []api.Cmd
	arranged := ofKind(s.p, api.NodeArrange)
	sprinkle := func() {
		for range x.below(4) {
			l = append(l, step(x.below(len(s.p.Nodes)), anyOf(x, 0, 1, 2, 9, 1000)))
		}
		if len(arranged) > 0 && x.below(4) == 0 {
			l = append(l, compact(anyOf(x, arranged...), pair(x.below(4), x.below(4))), peek(anyOf(x, arranged...), pair(x.below(4), x.below(4))))
		}
		if x.below(6) == 0 {
			l = append(l, poll(x.below(len(s.p.Outs))))
		}
	}
	apart := func() {
		for _, c := range shuffled(x, together) {
			l = append(l, c)
			sprinkle()
		}
		together = nil
	}
	for _, c := range s.done() {
		switch c.Do {
		case api.CmdInsert:
			together = append(together, c)
		case api.CmdInstall, api.CmdAdvance:
			apart()
			l = append(l, c)
			sprinkle()
		}
	}
	apart()
	return append(l, turns(s.p, x.below(4))...)
}

func TestWhoeverHasATurn(t *testing.T) { // E2: other turns, fuels, compactions, and inserts in another order: the same at each time that is closed in both
	closed, others := 0, 0
	for i := range 90 {
		x, first := drawLife(t, 10000+i, 9, 70, drawDiff)
		for range 2 {
			second := live(t, first.name+", otherwise", otherwise(x, first))
			if first.has(api.ErrFailed) || second.has(api.ErrFailed) {
				t.Fatalf("%s: it has failed", first.name)
			}
			closed += alike(t, first, second, grid(7)...)
			second.holds(t, pair(x.below(5), x.below(5)))
			if !sameNotes(first.told.Notes, second.told.Notes) {
				others++
			}
		}
	}
	if closed < 2500 || others < 120 {
		t.Errorf("%d closed, %d were told in another way", closed, others)
	}
}

// has: is an error among the codes?
func (s *life) has(e api.Errno) bool { return slices.Contains(s.told.Codes, e) }

// driven is an engine that is handed commands one by one, and what the test knows of it.
type driven struct {
	*life
	g     *engine.Engine
	since map[int][]api.Time // of the arrangements: to what each was compacted last
}

func drive(name string, p api.Plan) *driven {
	d := &driven{&life{name: name, p: p, came: map[int][]api.Up{}}, engine.New(), map[int][]api.Time{}}
	for _, at := range ofKind(p, api.NodeArrange) {
		d.since[at] = times(pair(0, 0))
	}
	d.do(install(p))
	return d
}

// do does a command; its error.
func (d *driven) do(c api.Cmd) (api.Reply, error) {
	reply, err := d.g.Do(c)
	if err == nil {
		switch c.Do {
		case api.CmdInsert:
			d.came[c.Node] = append(d.came[c.Node], c.Up)
		case api.CmdCompact:
			d.since[c.Node] = c.Front
		}
	}
	return reply, err
}

// seen is all that can be seen of the engine, as a text; Quiet is not asked, as it does some of a turn.
func (d *driven) seen() string {
	var l []any
	f := d.g.Flow()
	for i := range d.p.Outs {
		ups, e := f.Out(i)
		l = append(l, ups, int(e))
	}
	for at := range d.p.Nodes {
		frontier, _ := f.Frontier(at)
		l = append(l, frontier)
		for _, s := range f.Spines(at) {
			l = append(l, batches(s), s.Since(), s.Total(), s.Still())
		}
	}
	waiting, stored := f.Load()
	p, ok := d.g.Plan()
	return fmt.Sprint(l, waiting, stored, p, ok, d.g.Failed() == nil, int(f.Failed()))
}

func batches(s *spine.Spine) []any {
	var l []any
	for _, b := range s.Batches() {
		l = append(l, b.Ups(), b.Since())
	}
	return l
}

// peeks asks for what an arrangement has at a time, and holds what is told against what the plan means.
func (d *driven) peeks(t *testing.T, at int, when api.Time) api.Errno {
	t.Helper()
	frontier, _ := d.g.Flow().Frontier(at)
	before := d.seen()
	reply, err := d.do(peek(at, when))
	code := fault.Code(err)
	if d.seen() != before {
		t.Fatalf("%s: a peek of node %d at %v has changed something", d.name, at, when)
	}
	if code != api.OK && len(reply.Counts) > 0 {
		t.Fatalf("%s: a peek of node %d at %v: %s beside %d", d.name, at, when, brief(reply.Counts), int(code))
	}
	of := d.p
	of.Outs = []int{at}
	want, meaning := deno.At(of, d.lists(), when)
	switch {
	case advanced(frontier, when) || min(when.Epoch, when.Round) < 0:
		if code != api.ErrOpen {
			t.Fatalf("%s: a peek of node %d at %v, which is open: %d", d.name, at, when, int(code))
		}
	case !advanced(d.since[at], when):
		if code != api.ErrCompacted {
			t.Fatalf("%s: a peek of node %d at %v, which is told apart no more: %d", d.name, at, when, int(code))
		}
	case meaning != api.OK || code == api.ErrOver:
		return api.ErrOver
	case code != api.OK || !sameCounts(reply.Counts, want[0]):
		t.Fatalf("%s: a peek of node %d at %v: %s, error %d; the plan means %s", d.name, at, when, brief(reply.Counts), int(code), brief(want[0]))
	}
	return code
}

func TestPeeks(t *testing.T) { // E2: at times in advance of what was compacted what the plan means; at others they are told apart no more
	codes, some := map[api.Errno]int{}, 0
	for i := range 60 {
		x := chance(11000 + i)
		p := drawPlan(&x, 3+x.below(6))
		if len(ofKind(p, api.NodeArrange)) == 0 {
			p.Nodes = append(p.Nodes, keyed(api.NodeArrange, 0, 0, x.below(len(p.Nodes))), keyed(api.NodeArrange, 0, 0, x.below(len(p.Nodes))))
		}
		arranged := ofKind(p, api.NodeArrange)
		d := drive(fmt.Sprintf("plan %d, %s", i, brief(p)), p)
		cmds := drawScript(&x, p, 50, drawDiff)
		for j, c := range append(cmds, turns(p, 2)...) {
			d.do(c)
			if j%6 == 0 {
				codes[d.peeks(t, anyOf(&x, arranged...), pair(x.below(6), x.below(6)))]++
			}
		}
		for _, at := range arranged {
			for _, when := range grid(5) {
				codes[d.peeks(t, at, when)]++
				if there, _ := d.do(peek(at, when)); len(there.Counts) > 0 {
					some++
				}
			}
			codes[d.peeks(t, at, pair(-1, 0))]++
		}
	}
	if codes[api.OK] < 300 || codes[api.ErrOpen] < 300 || codes[api.ErrCompacted] < 300 || some < 150 {
		t.Errorf("%v; %d were told something", codes, some)
	}
}

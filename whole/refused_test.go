package whole_test

import (
	"errors"
	"fmt"
	"slices"
	"testing"

	"runnel/api"
	"runnel/engine"
	"runnel/fault"
	"runnel/plan"
)

// refusedCmds are commands that an engine with the plan refuses, whatever was done.
func refusedCmds(p api.Plan) []api.Cmd {
	in, last := plan.Inputs(p)[0], len(p.Nodes)
	fits := drawRow(new(chance), p.Nodes[in].Kinds)
	l := []api.Cmd{
		install(p), {Do: api.CmdInstall}, install(planOf(1, input(ints))),
		insert(last, up(nil, 0, 0, 1)), insert(-1, up(fits, 9, 9, 1)), insert(in, up(fits, 9, 9, 0)), insert(in, up(r(1, 2, 3, 4), 9, 9, 1)), insert(in, up(fits, -1, 0, 1)), insert(in, up(fits, api.MaxTime+1, 9, 1)),
		advance(-1), advance(last, pair(9, 9)), advance(in, pair(0, -1)), advance(in, pair(9, 9), pair(9, 9)), advance(in, pair(9, 0), pair(0, 9)), advance(in, pair(api.MaxTime+1, 0)),
		step(last, 9), step(-1, 9), step(0, -1), step(in, low), compact(last), compact(in), compact(in, pair(9, 9)), peek(in, pair(0, 0)), peek(last, pair(0, 0)), peek(-1, pair(0, 0)), poll(-1), poll(len(p.Outs)), poll(high),
	}
	for _, at := range ofKind(p, api.NodeArrange) {
		l = append(l, insert(at, up(fits, 9, 9, 1)), advance(at), compact(at, pair(0, -1)), compact(at, pair(9, 0), pair(0, 9)), peek(at, pair(-1, 0)), peek(at, pair(0, api.MaxTime+1)))
	}
	return l
}

func TestRefusedInBetween(t *testing.T) { // E3: of two scripts, of which one has commands in between that may not be, the same is told, and each of these is answered
	refused := 0
	for i := range 60 {
		x, first := drawLife(t, 12000+i, 9, 60, drawDiff)
		if len(first.p.Nodes) == 0 {
			t.Fatalf("%s: no plan", first.name)
		}
		wrong := refusedCmds(first.p)
		var cmds []api.Cmd
		var wild []int
		has := false
		for j, c := range first.cmds {
			cmds = append(cmds, c)
			has = has || c.Do == api.CmdInstall && first.told.Codes[j] == api.OK
			for range x.below(3) {
				if has {
					wild = append(wild, len(cmds))
					cmds = append(cmds, anyOf(x, wrong...))
				}
			}
		}
		second := live(t, first.name+", with others in between", cmds)
		codes := slices.Clone(second.told.Codes)
		for _, at := range slices.Backward(wild) {
			if codes[at] == api.OK {
				t.Fatalf("%s: %s is not refused", second.name, brief(cmds[at]))
			}
			codes = slices.Delete(codes, at, at+1)
			refused++
		}
		if told := (api.Told{Notes: second.told.Notes, Codes: codes, Peeks: second.told.Peeks}); !sameTold(told, first.told) {
			t.Fatalf("%s: it is told otherwise", second.name)
		}
	}
	if refused < 3000 {
		t.Errorf("only %d", refused)
	}
}

func TestRefusedIsNotSeen(t *testing.T) { // E3: a command that has an error changes nothing that can be seen, ahead of a plan too
	refused := map[int]int{}
	for i := range 25 {
		x := chance(13000 + i)
		p := drawPlan(&x, 3+x.below(7))
		ahead := engine.New()
		for _, c := range refusedCmds(p)[1:] {
			if c.Do == api.CmdInstall && len(c.Sheet) > 0 {
				continue // that plan may be
			}
			if reply, err := ahead.Do(c); err == nil || !isNothing(reply) || ahead.Flow() != nil || ahead.Failed() != nil || ahead.Quiet() {
				t.Fatalf("ahead of a plan: %s: %s", brief(c), brief(reply))
			}
		}
		d := drive(fmt.Sprintf("plan %d, %s", i, brief(p)), p)
		for j, c := range append(drawScript(&x, p, 40, drawDiff), turns(p, 1)...) {
			l := []api.Cmd{c}
			if j%3 == 0 {
				l = append(l, anyOf(&x, refusedCmds(p)...))
			}
			for k, c := range l {
				before := d.seen()
				reply, err := d.do(c)
				if err == nil && k == 0 {
					continue
				}
				refused[c.Do]++
				if err == nil || !isNothing(reply) || d.seen() != before {
					t.Fatalf("%s: %s is refused, and yet there is something: %s", d.name, brief(c), brief(reply))
				}
				if ops := fault.Ops(err); !slices.Equal(ops, []string{engine.Name(c.Do)}) {
					t.Fatalf("%s: %s: %v", d.name, brief(c), ops)
				}
			}
		}
	}
	for do := range api.Cmds {
		if refused[do] < 20 {
			t.Errorf("%s: %d", engine.Name(do), refused[do])
		}
	}
}

func isNothing(a api.Reply) bool {
	return a.Left == 0 && len(a.Counts) == 0 && len(a.Ups) == 0 && len(a.Front) == 0
}

func TestTooGreat(t *testing.T) { // E3: a number that is too great lets the engine fail for good: by that error, and from then on nothing comes, whatever is asked
	failed, behind := 0, 0
	for i := range 150 {
		x := chance(14000 + i)
		p := drawPlan(&x, 3+x.below(7))
		d := drive(fmt.Sprintf("plan %d, %s", i, brief(p)), p)
		var cause api.Errno
		var before string
		for _, c := range append(drawScript(&x, p, 20, drawDiff), drawTail(&x, p)...) {
			reply, err := d.do(c)
			if cause == api.OK {
				if cause = d.g.Flow().Failed(); cause == api.OK {
					continue
				}
				if !slices.Equal(fault.All(err), []api.Errno{cause}) || !isNothing(reply) || d.g.Quiet() {
					t.Fatalf("%s: %s fails by %d: %v", d.name, brief(c), int(cause), fault.All(err))
				}
				failed++
				before = d.seen()
				continue
			}
			behind++
			if err == nil || !isNothing(reply) || d.seen() != before {
				t.Fatalf("%s: it has failed, and yet %s is told %s", d.name, brief(c), brief(reply))
			}
			if c.Do != api.CmdInstall && (!errors.Is(err, api.ErrFailed) || !errors.Is(err, cause) || !slices.Equal(fault.All(err), []api.Errno{api.ErrFailed, cause})) {
				t.Fatalf("%s: it has failed by %d; %s: %v", d.name, int(cause), brief(c), fault.All(err))
			}
		}
		if cause != api.OK && !slices.Equal(fault.All(d.g.Failed()), []api.Errno{api.ErrFailed, cause}) {
			t.Fatalf("%s: it has failed by %d: %v", d.name, int(cause), fault.All(d.g.Failed()))
		}
	}
	if failed < 40 || behind < 1500 {
		t.Errorf("%d failed, %d commands behind", failed, behind)
	}
}

func TestTooGreatByHand(t *testing.T) { // E3: a count of rows that no number tells: at the time that was closed ahead of it there is what the plan means, and nothing comes behind
	p := planOf(9, input(ints), keyed(api.NodeCount, 0, 0, 0))
	s := live(t, "a count", []api.Cmd{install(p), insert(0, up(r(1), 0, 0, high)), insert(0, up(r(2), 1, 0, 1)), advance(0, pair(1, 0)), step(1, 9), advance(0, pair(5, 0)), step(1, 9), insert(0, up(r(3), 5, 0, 1)), advance(0), step(1, 9), poll(0), install(p)})
	want := []api.Errno{0, 0, 0, 0, 0, 0, api.ErrOver, api.ErrFailed, api.ErrFailed, api.ErrFailed, api.ErrFailed, api.ErrTime}
	if !slices.Equal(s.told.Codes, want) {
		t.Fatalf("codes %d, want %d", s.told.Codes, want)
	}
	if closed := s.holds(t, grid(3)...); closed != 3 { // at (0, 0), (0, 1) and (0, 2): at (1, 0) the count is told no more
		t.Errorf("%d were closed: %s", closed, brief(s.told.Notes))
	}
}

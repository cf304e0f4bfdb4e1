package engine_test

import (
	"fmt"
	"slices"
	"testing"

	"runnel/api"
	"runnel/engine"
	"runnel/fault"
	"runnel/plan"
)

func TestAtRandom(t *testing.T) { // P25.1 to P25.3: plans and commands that are drawn: each answer, and all that is told behind it
	kinds, done, refused, closed := make([]int, api.Nodes), make([]int, api.Cmds), make([]int, api.Cmds), 0
	for i := range 200 {
		x := chance(i)
		p := drawPlan(&x, 3+x.below(9))
		for _, n := range p.Nodes {
			kinds[n.Kind]++
		}
		w := watch(t, fmt.Sprintf("plan %d, %+v", i, p))
		for range x.below(5) {
			c := w.drawWild(&x)
			if c.Do == api.CmdInstall {
				c.Sheet = nil
			}
			w.do(c)
			w.hold("ahead of a plan")
		}
		w.does(install(p))
		asksQuiet := 1 + x.below(3) // it advances what is in the flow: not in each session behind each command
		for call := range 70 {
			c := w.drawCmd(&x)
			_, err := w.do(c)
			if c.Do >= 0 && c.Do < api.Cmds {
				if err == nil {
					done[c.Do]++
				} else {
					refused[c.Do]++
				}
			}
			w.hold(fmt.Sprint("command ", call))
			if call%asksQuiet == 0 {
				w.quiet()
			}
		}
		closed += w.means(grid(8))
		if w.f.Failed() != api.OK {
			continue
		}
		w.settle(anyOf(&x, 1, 1, 2, 5))
		for _, in := range plan.Inputs(p) {
			w.moves(in)
		}
		w.settle(anyOf(&x, 1, 3, 1000))
		w.together()
		if got := w.means(grid(8)); got != 64*len(p.Outs) {
			t.Fatalf("%s: %d closed", w.name, got)
		}
	}
	for kind, many := range kinds {
		if many < 30 {
			t.Errorf("kind %d came only %d times", kind, many)
		}
	}
	for do := range api.Cmds {
		if done[do] < 50 && do != api.CmdInstall || refused[do] < 10 {
			t.Errorf("%s was done %d times, refused %d times", engine.Name(do), done[do], refused[do])
		}
	}
	if closed < 2000 {
		t.Errorf("only %d were closed", closed)
	}
}

func TestPolledTogether(t *testing.T) { // P25.3: over long rows of commands: each change once, in order, and what the plan means at each closed time
	closed, came := 0, 0
	for i := range 12 {
		x := chance(4000 + i)
		p := drawPlan(&x, 6+x.below(5))
		w := installed(t, fmt.Sprintf("plan %d, %+v", i, p), p)
		for call := range 400 {
			w.do(w.drawCmd(&x))
			if call%3 == 0 {
				w.do(step(x.below(len(p.Nodes)), 1+x.below(3)))
			}
			if w.f.Failed() != api.OK {
				break
			}
			if call%4 == 0 {
				w.do(poll(x.below(len(p.Outs))))
				// All outs are asked at the frontiers that were told with their last polls: what was inserted behind these is in advance of them.
				closed += w.means(times(pair(x.below(6), x.below(6)), pair(x.below(12), x.below(12))))
			}
		}
		if w.f.Failed() != api.OK {
			continue
		}
		w.together()
		for _, l := range w.got {
			came += len(l)
		}
		closed += w.means(grid(8))
	}
	if closed < 500 || came < 300 {
		t.Errorf("%d were closed, %d came", closed, came)
	}
}

// refusedCmds are commands that an engine with a plan refuses, whatever was done.
func refusedCmds(p api.Plan) []api.Cmd {
	in, last := plan.Inputs(p)[0], len(p.Nodes)
	return []api.Cmd{
		install(p), {Do: api.CmdInstall}, {Do: -1}, {Do: api.Cmds, Fuel: 5}, install(planOf(1, input(num))),
		insert(last, up(nil, 0, 0, 1)), insert(in, up(r(1), 0, 0, 0)), insert(in, up(slices.Repeat(r(1), 17), 9, 9, 1)), insert(in, up(drawRow(new(chance), p.Nodes[in].Kinds), -1, 0, 1)),
		advance(-1), advance(in, make([]api.Time, 17)...), advance(in, pair(0, -1)), advance(in, pair(9, 9), pair(9, 9)),
		step(last, 9), step(0, -1), step(in, low), compact(last), compact(in), compact(in, pair(9, 9)), peek(in, pair(0, 0)), peek(last, pair(0, 0)), poll(-1), poll(len(p.Outs)), poll(high),
	}
}

func TestRefusedInBetween(t *testing.T) { // P25.3: two engines with the same commands, of which one is given refused ones in between, tell the same
	for i := range 60 {
		x := chance(5000 + i)
		p := drawPlan(&x, 3+x.below(9))
		w := installed(t, fmt.Sprintf("plan %d, %+v", i, p), p)
		other := engine.New()
		refuse := func(l []api.Cmd) {
			for range 1 + x.below(4) {
				c := anyOf(&x, l...)
				if reply, err := other.Do(c); err == nil || !sameReply(reply, api.Reply{}) {
					t.Fatalf("%s: %s is not refused", w.name, told(c))
				}
			}
		}
		refuse([]api.Cmd{insert(0, up(r(1), 0, 0, 1)), step(0, 5), poll(0), {Do: api.CmdInstall}, install(planOf(0, input(num))), {Do: 9}})
		other.Do(install(p))
		refused := refusedCmds(p)
		for call := range 60 {
			refuse(refused)
			c := w.drawCmd(&x)
			reply, err := w.do(c)
			got, gotErr := other.Do(c)
			if !sameReply(got, reply) || !slices.Equal(fault.All(gotErr), fault.All(err)) {
				t.Fatalf("%s: command %d, %s: %s, %v; want %s, %v", w.name, call, told(c), told(got), fault.All(gotErr), told(reply), fault.All(err))
			}
			if bad := flowFault(other.Flow(), w.f, p); bad != "" {
				t.Fatalf("%s: command %d, %s: %s", w.name, call, told(c), bad)
			}
			if call%10 == 9 {
				if quiet := w.quiet(); other.Quiet() != quiet {
					t.Fatalf("%s: command %d: Quiet is not %v", w.name, call, quiet)
				}
			}
		}
	}
}

func TestTwoEngines(t *testing.T) { // P25.1: what one is told is not the other one's
	a, b := installed(t, "a", busyPlan()), installed(t, "b", planOf(1, input(num)))
	for i, c := range busyCommands() {
		a.does(c)
		b.does(insert(0, up(r(i), i, 0, 1)))
		b.polls(0, times(pair(0, 0)), up(r(i), i, 0, 1))
	}
	a.goesOn()
	b.together()
}

func FuzzEngines(f *testing.F) { // P25.1 to P25.3: plans and commands by bytes
	for i := range 40 {
		x := chance(8000 + i)
		var b []byte
		for range 100 + 10*i {
			b = append(b, byte(x.below(256)))
		}
		f.Add(b)
	}
	f.Fuzz(func(t *testing.T, b []byte) {
		x := &read{b}
		w := watch(t, "bytes")
		w.do(api.Cmd{Do: api.CmdInstall, Sheet: b})
		isDrawn := w.f == nil // of other plans more may come than is looked through in a moment, or a number be too great
		if isDrawn {
			p := drawPlan(x, 3+x.below(8))
			w.name = fmt.Sprintf("%+v", p)
			w.does(install(p))
		}
		if len(w.ofKind(api.NodeInput)) == 0 {
			return
		}
		for call := 0; len(x.left) > 0 && call < 150; call++ {
			w.do(w.drawCmd(x))
			w.hold(fmt.Sprint("command ", call))
		}
		w.means(grid(6))
		if isDrawn && w.f.Failed() == api.OK {
			w.settle(1 + x.below(3))
			w.together()
			w.means(grid(6))
		}
	})
}

package script_test

import (
	"fmt"
	"reflect"
	"runtime"
	"slices"
	"testing"
	"unsafe"
	"weak"

	"runnel/api"
	"runnel/engine"
	"runnel/script"
	"runnel/wire"
)

// withRoom is a list in memory of its own, with these things in the spare room behind it.
func withRoom[T any](l []T, behind ...T) []T {
	all := make([]T, 0, len(l)+len(behind))
	all = append(append(all, l...), behind...)
	return all[:len(l)]
}

// everything is a list with its spare room.
func everything[T any](l []T) []T { return l[:cap(l)] }

// spoilList writes over all of a list, spare room too.
func spoilList[T any](l []T, x T) {
	for i := range everything(l) {
		everything(l)[i] = x
	}
}

// roomy is a script in memory of its own, with spare room behind each list, and all fields filled, those too that a command does not use.
func roomy(l []api.Cmd) []api.Cmd {
	var own []api.Cmd
	for _, c := range l {
		c.Up.Row = withRoom(c.Up.Row, r("spare", 77)...)
		c.Front = withRoom(c.Front, pair(-7, -8), pair(0, 0))
		c.Sheet = withRoom(c.Sheet, 0, 80, 255)
		own = append(own, c)
	}
	return withRoom(own, install(planOf(1, input(num))), advance(0))
}

// allOf is a script with its spare room, in memory of its own.
func allOf(l []api.Cmd) []api.Cmd {
	var own []api.Cmd
	for _, c := range everything(l) {
		c.Up.Row, c.Front, c.Sheet = everything(c.Up.Row), everything(c.Front), everything(c.Sheet)
		own = append(own, copiedCmd(c))
	}
	return own
}

func spoilCmds(l []api.Cmd) {
	for _, c := range everything(l) {
		spoilList(c.Up.Row, api.Val{Kind: 1, Int: -79, Str: "spoilt"})
		spoilList(c.Front, pair(-77, -78))
		spoilList(c.Sheet, 255)
	}
	spoilList(l, api.Cmd{Do: -80})
}

func spoilNotes(l []api.Note) {
	for _, n := range everything(l) {
		spoilList(n.Up.Row, api.Val{Kind: 1, Int: -79, Str: "spoilt"})
		spoilList(n.Front, pair(-77, -78))
	}
	spoilList(l, api.Note{Out: -80})
}

func spoilTold(told api.Told) {
	spoilNotes(told.Notes)
	spoilList(told.Codes, -81)
	for _, l := range everything(told.Peeks) {
		for _, c := range everything(l) {
			spoilList(c.Row, api.Val{Kind: 1, Int: -79, Str: "spoilt"})
		}
		spoilList(l, count(-82, nil))
	}
	spoilList(told.Peeks, nil)
}

func spoilFronts(l [][]api.Time) {
	for _, f := range everything(l) {
		spoilList(f, pair(-77, -78))
	}
	spoilList(l, nil)
}

// copiedTold is what was told, in memory of its own.
func copiedTold(told api.Told) api.Told {
	own := api.Told{Codes: slices.Clone(told.Codes)}
	for _, n := range told.Notes {
		n.Up.Row, n.Front = slices.Clone(n.Up.Row), slices.Clone(n.Front)
		own.Notes = append(own.Notes, n)
	}
	for _, l := range told.Peeks {
		var counts []api.Count
		for _, c := range l {
			counts = append(counts, count(c.Diff, slices.Clone(c.Row)))
		}
		own.Peeks = append(own.Peeks, counts)
	}
	return own
}

// memoryScript is a session with everyKind, in which commands are refused in between.
func memoryScript() []api.Cmd {
	p := everyKind()
	l := cmds(api.Cmd{Do: api.CmdInstall, Sheet: []byte("no plan")}, install(p), install(p))
	for i := range 4 {
		l = append(l, insert(0, up(r(i%3, "a"), i, 1, 1)), insert(1, up(r(i%3, i%4), i, 2, 2)), insert(1, up(r(i%3, (i+1)%4), i, 0, -1)),
			insert(0, up(r(i, 5), i, 1, 1)), insert(1, up(r(i, 5), -1, 1, 1)), insert(3, up(r(i, 5), i, 1, 1))) // refused
		closed := times(pair(i, 3), pair(i+1, 0))
		l = append(l, advance(0, closed...), advance(1, closed...), advance(0, pair(0, 0)), compact(9, pair(i, 0)), advance(1, make([]api.Time, 17)...))
		for range 3 {
			for at := range p.Nodes {
				l = append(l, step(at, 9))
			}
		}
		l = append(l, poll(5), peek(9, pair(i, 0)), peek(9, pair(i, 2)), peek(9, pair(i, 3)), peek(9, pair(i+1, 0)), peek(9, pair(0, 9)), poll(9))
	}
	return append(l, advance(0), advance(1), step(9, 50))
}

// memoryScripts are scripts in which all that may be told is told, and such in which little is.
func memoryScripts() map[string][]api.Cmd {
	x := chance(99)
	l := map[string][]api.Cmd{
		"none": nil, "refused": cmds(poll(0), insert(0, up(r(1), 0, 0, 1))), "every kind": memoryScript(), "busy": and(busyCommands(), endings()...),
		"the page": cmds(install(planOf(1, input(num))), insert(0, up(r(7), 0, 0, 1)), advance(0, pair(1, 0))),
		"failed":   cmds(install(outsAre(planOf(9, input(num), mapped(0, of(api.OpNeg, col(0)))), 1, 0)), insert(0, up(r(5), 0, 0, 1)), insert(0, up(r(low), 0, 0, 1)), advance(0, pair(1, 0)), step(1, 2), poll(0)),
	}
	for i := range 10 {
		l[fmt.Sprint("drawn ", i)] = draw(&x, "", drawPlan(&x, 3+x.below(5), 1+x.below(5)), 50).cmds
	}
	return l
}

// noteMoments calls do behind each command of a script, on an engine that has done it.
func noteMoments(l []api.Cmd, do func(i int, g *engine.Engine)) {
	g := engine.New()
	for i, c := range l {
		g.Do(c)
		do(i, g)
	}
}

func TestWhatIsHandedInIsLeft(t *testing.T) { // the rule of memory: neither changed nor kept, spare room included: commands and their lists, bytes
	for name, l := range memoryScripts() {
		want := driven("", l).told
		given := roomy(l)
		before := allOf(given)
		told := script.Play(given)
		if !reflect.DeepEqual(allOf(given), before) {
			t.Errorf("%s: the commands were changed, or their spare room", name)
		}
		spoilCmds(given)
		if bad := difference(told, want); bad != "" {
			t.Errorf("%s: the commands are written over, and so is what was told: %s", name, bad)
		}
		sayable, plain := driven("", l).encoded()
		b := withRoom(plain, []byte("the spare room")...)
		all := slices.Clone(everything(b))
		told, e, at := script.Run(b)
		if e != api.OK || at != len(plain) || !slices.Equal(everything(b), all) {
			t.Errorf("%s: error %d at %d; or the bytes were changed, or their spare room", name, e, at)
		}
		spoilList(b, 0x61)
		if bad := difference(told, driven("", sayable).told); bad != "" {
			t.Errorf("%s: the bytes are written over, and so is what was told: %s", name, bad)
		}
	}
}

func TestWasIsLeft(t *testing.T) { // the rule of memory: was, with its frontiers and all spare room, is neither changed nor kept: where it is noted anew, where it is not, where nothing is noted
	for name, l := range memoryScripts() {
		twin := engine.New()
		var was, plain [][]api.Time
		noteMoments(l, func(i int, g *engine.Engine) {
			twin.Do(l[i])
			given := make([][]api.Time, 0, 10)
			for _, f := range was {
				given = append(given, withRoom(f, pair(-5, -6), pair(0, 0)))
			}
			given = withRoom(given, times(pair(9, 9)), nil, times(pair(0, 0)))
			all := copiedFronts(everything(given))
			var rooms [][]api.Time
			for _, f := range given {
				rooms = append(rooms, slices.Clone(everything(f)))
			}
			got, now := script.Notes(given, g)
			if !sameFronts(everything(given), all) {
				t.Fatalf("%s, command %d: was is changed, or its spare room", name, i)
			}
			for j, f := range given {
				if !slices.Equal(everything(f), rooms[j]) {
					t.Fatalf("%s, command %d: frontier %d of was is changed, or its spare room", name, i, j)
				}
			}
			spoilFronts(given)
			var want []api.Note
			want, plain = script.Notes(plain, twin)
			if !sameNotes(got, want) || !sameFronts(now, plain) {
				t.Fatalf("%s, command %d: was is written over, and so is what was told: %s, %v; want %s, %v", name, i, brief(got), now, brief(want), plain)
			}
			was = now
		})
	}
}

// places are where the things of lists lie, each of which may be there but once. They keep what was told, so that no memory is told twice only because it came to be free.
type places map[unsafe.Pointer]string

func take[T any](t *testing.T, p places, name string, l []T) {
	t.Helper()
	for i := range everything(l) {
		place := unsafe.Pointer(&everything(l)[i])
		if other, there := p[place]; there {
			t.Fatalf("%s lies where %s does", name, other)
		}
		p[place] = name
	}
}

func takeNotes(t *testing.T, p places, name string, l []api.Note) (rows int) {
	t.Helper()
	take(t, p, name+": notes", l)
	for _, n := range everything(l) {
		take(t, p, name+": a note's row", n.Up.Row)
		take(t, p, name+": a note's frontier", n.Front)
		rows += len(n.Up.Row) + len(n.Front)
	}
	return rows
}

func takeTold(t *testing.T, p places, name string, told api.Told) (rows int) {
	t.Helper()
	rows = takeNotes(t, p, name, told.Notes)
	take(t, p, name+": codes", told.Codes)
	take(t, p, name+": peeks", told.Peeks)
	for _, l := range everything(told.Peeks) {
		take(t, p, name+": a peek", l)
		for _, c := range everything(l) {
			take(t, p, name+": a peek's row", c.Row)
			rows += len(c.Row)
		}
	}
	return rows
}

func takeCmds(t *testing.T, p places, name string, l []api.Cmd) {
	t.Helper()
	take(t, p, name+": commands", l)
	for _, c := range everything(l) {
		take(t, p, name+": a command's row", c.Up.Row)
		take(t, p, name+": a command's frontier", c.Front)
		take(t, p, name+": a command's sheet", c.Sheet)
	}
}

func takeFronts(t *testing.T, p places, name string, l [][]api.Time) {
	t.Helper()
	take(t, p, name, l)
	for _, f := range everything(l) {
		take(t, p, name+": one of them", f)
	}
}

func TestAnswersAreTheirOwn(t *testing.T) { // the rule of memory: no list, spare room too, lies where another one does, or what was handed in
	taken, rows := places{}, 0
	for name, l := range memoryScripts() {
		given := roomy(l)
		takeCmds(t, taken, name+": given", given)
		_, plain := driven("", l).encoded()
		b := withRoom(plain, []byte("and room")...)
		take(t, taken, name+": the bytes given", b)
		for range 2 {
			rows += takeTold(t, taken, name+": Play", script.Play(given))
			told, _, _ := script.Run(b)
			rows += takeTold(t, taken, name+": Run", told)
		}
	}
	if rows < 5000 {
		t.Fatalf("only %d", rows)
	}
}

func TestNotesAreTheirOwn(t *testing.T) { // the rule of memory: neither the notes, nor the frontiers beside them, lie where was does, another answer, or what the engine tells
	rows := 0
	for name, l := range memoryScripts() {
		taken := places{}
		var was [][]api.Time
		noteMoments(l, func(i int, g *engine.Engine) {
			name := fmt.Sprintf("%s, command %d", name, i)
			for range 2 {
				got, now := script.Notes(was, g)
				rows += takeNotes(t, taken, name, got)
				takeFronts(t, taken, name+": the frontiers", now)
				was = now
			}
			p, _ := g.Plan()
			for out, node := range p.Outs {
				reply, _ := g.Do(poll(out))
				take(t, taken, name+": polled", reply.Front)
				frontier, _ := g.Flow().Frontier(node)
				take(t, taken, name+": Frontier", frontier)
			}
		})
	}
	if rows < 1000 {
		t.Fatalf("only %d", rows)
	}
}

func TestNotesAreWrittenOver(t *testing.T) { // the rule of memory: the engine, and what Notes tells later, stay as they were
	for name, l := range memoryScripts() {
		twin := engine.New()
		var was, plain [][]api.Time
		noteMoments(l, func(i int, g *engine.Engine) {
			twin.Do(l[i])
			got, now := script.Notes(was, g)
			want, then := script.Notes(plain, twin)
			if !sameNotes(got, want) || !sameFronts(now, then) {
				t.Fatalf("%s, command %d: %s, %v; want %s, %v", name, i, brief(got), now, brief(want), then)
			}
			spoilNotes(got)
			if !sameFronts(now, then) {
				t.Fatalf("%s, command %d: the notes are written over, and so are the frontiers", name, i)
			}
			was, plain = copiedFronts(now), then
			spoilFronts(now)
			p, _ := g.Plan()
			for out, node := range p.Outs {
				a, _ := g.Flow().Out(out)
				b, _ := twin.Flow().Out(out)
				f, _ := g.Flow().Frontier(node)
				h, _ := twin.Flow().Frontier(node)
				if !slices.EqualFunc(a, b, func(u, v api.Up) bool { return sameRow(u.Row, v.Row) && u.Time == v.Time && u.Diff == v.Diff }) || !slices.Equal(f, h) {
					t.Fatalf("%s, command %d: what was told is written over, and so is the engine", name, i)
				}
			}
		})
	}
}

func TestNotesOfNothingAreTheirOwn(t *testing.T) { // the rule of memory: of an engine that is nil, has no plan, or has failed, too
	failed := engine.New()
	for _, c := range memoryScripts()["failed"] {
		failed.Do(c)
	}
	for name, g := range map[string]*engine.Engine{"nil": nil, "no plan": engine.New(), "failed": failed} {
		was := withRoom(fronts(withRoom(times(pair(1, 2)), pair(3, 4)), withRoom(times(), pair(5, 6)), nil), times(pair(7, 8)))
		taken := places{}
		takeFronts(t, taken, "was", was)
		for range 3 {
			got, now := script.Notes(was, g)
			if len(got) != 0 || !sameFronts(now, fronts(times(pair(1, 2)), nil, nil)) {
				t.Fatalf("%s: %v, %v", name, got, now)
			}
			takeFronts(t, taken, name, now)
			spoilFronts(now)
		}
	}
}

func TestPartsOfOneAnswer(t *testing.T) { // the rule of memory: one note or peek is written over, and the others stay
	want := script.Play(memoryScript())
	if len(want.Notes) < 100 || len(want.Peeks) < 6 {
		t.Fatalf("only %d notes, %d peeks", len(want.Notes), len(want.Peeks))
	}
	for i := range want.Notes {
		if i%10 != 0 {
			continue
		}
		told, other := copiedTold(want), script.Play(memoryScript())
		spoilNotes(other.Notes[i : i+1 : i+1])
		told.Notes[i], other.Notes[i] = api.Note{}, api.Note{}
		if bad := difference(other, told); bad != "" {
			t.Fatalf("note %d is written over: %s", i, bad)
		}
	}
	for i := range want.Peeks {
		told, other := copiedTold(want), script.Play(memoryScript())
		spoilTold(api.Told{Peeks: slices.Clone(other.Peeks[i : i+1])})
		told.Peeks[i], other.Peeks[i] = nil, nil
		if bad := difference(other, told); bad != "" {
			t.Fatalf("peek %d is written over: %s", i, bad)
		}
	}
}

func TestTheSameTwice(t *testing.T) { // from arguments alone: the same, in the same order, also behind other calls, behind faults, and where an answer is written over
	for round := range 3 {
		for name, l := range memoryScripts() {
			first := script.Play(l)
			want := copiedTold(first)
			spoilTold(first)
			script.Run([]byte{1, 2})
			script.Play(busyCommands())
			if bad := difference(script.Play(l), want); bad != "" {
				t.Errorf("%s, round %d: %s", name, round, bad)
			}
			_, b := driven("", l).encoded()
			told, _, _ := script.Run(b)
			want = copiedTold(told)
			spoilTold(told)
			if again, e, at := script.Run(b); e != api.OK || at != len(b) || !sameTold(again, want) {
				t.Errorf("%s, round %d: Run: error %d at %d", name, round, e, at)
			}
		}
	}
}

func TestOneListAgainAndAgain(t *testing.T) { // the rule of memory: commands that have one row, one frontier and one sheet between them
	row, f, b := r(1, 2), times(pair(1, 0)), bytesOf(planOf(9, input(num, num), arrange(0, 1)))
	var l []api.Cmd
	for _, c := range cmds(install(planOf(1, input())), insert(0, api.Up{Diff: 1}), insert(0, api.Up{Diff: 2}), step(1, 9), advance(0), compact(1), peek(1, pair(0, 0)), insert(0, up(nil, 1, 1, 1)), advance(0)) {
		c.Up.Row, c.Front, c.Sheet = row, f, b
		l = append(l, c)
	}
	want := api.Told{
		Notes: notes(came(0, row, 0, 0, 1), came(0, row, 0, 0, 2), upTo(0, f...)),
		Codes: codes(0, 0, 0, 0, 0, 0, api.ErrCompacted, 0, 0),
	}
	told := script.Play(l)
	if bad := difference(told, want); bad != "" {
		t.Fatal(bad)
	}
	taken := places{}
	take(t, taken, "the row", row)
	take(t, taken, "the frontier", f)
	take(t, taken, "the sheet", b)
	takeTold(t, taken, "what is told", told)
}

func TestWhatIsGoneIsNotKept(t *testing.T) { // no more is kept than is needed: an answer does not keep what was handed in, nor an engine what was noted of it
	given := roomy(memoryScript())
	var values []weak.Pointer[api.Val]
	var moments []weak.Pointer[api.Time]
	var bytes []weak.Pointer[byte]
	for _, c := range given {
		values = append(values, weak.Make(&c.Up.Row[:1][0]))
		moments = append(moments, weak.Make(&c.Front[:1][0]))
		bytes = append(bytes, weak.Make(&c.Sheet[:1][0]))
	}
	told := script.Play(given)
	given = nil
	g := engine.New()
	var was [][]api.Time
	for _, c := range memoryScript() {
		g.Do(c)
		got, now := script.Notes(was, g)
		for _, n := range got {
			if len(n.Up.Row) > 0 {
				values = append(values, weak.Make(&n.Up.Row[0]))
			}
			if len(n.Front) > 0 {
				moments = append(moments, weak.Make(&n.Front[0]))
			}
		}
		was = now
	}
	runtime.GC()
	runtime.GC()
	notKept(t, "a row", values)
	notKept(t, "a frontier", moments)
	notKept(t, "a sheet", bytes)
	runtime.KeepAlive(g)
	runtime.KeepAlive(was)
	runtime.KeepAlive(told)
}

func notKept[T any](t *testing.T, name string, l []weak.Pointer[T]) {
	t.Helper()
	for i, x := range l {
		if x.Value() != nil {
			t.Fatalf("%s, number %d, is kept", name, i)
		}
	}
}

func TestRunOfToldBytes(t *testing.T) { // the rule of memory: what is handed in is one piece of longer bytes, whose rest is left
	_, b := driven("", busyCommands()).encoded()
	long := slices.Concat([]byte{9, 9, 9}, b, []byte{8, 8, 8})
	piece := long[3 : 3+len(b)]
	told, e, at := script.Run(piece)
	if e != api.OK || at != len(b) || !slices.Equal(long, slices.Concat([]byte{9, 9, 9}, b, []byte{8, 8, 8})) {
		t.Fatalf("error %d at %d", e, at)
	}
	if l, _, _ := wire.Decode(b); !sameTold(told, script.Play(l)) {
		t.Fatal("another thing is told")
	}
}

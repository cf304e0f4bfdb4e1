package journal_test

import (
	"fmt"
	"maps"
	"reflect"
	"runtime"
	"slices"
	"testing"
	"unsafe"
	"weak"

	"runnel/api"
	"runnel/engine"
	"runnel/journal"
)

// withRoom is a list in memory of its own, with these things in the spare room behind it.
func withRoom[T any](l []T, behind ...T) []T {
	all := make([]T, 0, len(l)+len(behind))
	all = append(append(all, l...), behind...)
	return all[:len(l)]
}

// everything is a list with its spare room.
func everything[T any](l []T) []T { return l[:cap(l)] }

// spoilList writes over all of a list, spare room too.
func spoilList[T any](l []T, x T) {
	for i := range everything(l) {
		everything(l)[i] = x
	}
}

// roomy is a session in memory of its own, with spare room behind each list.
func roomy(l []api.Cmd) []api.Cmd {
	var own []api.Cmd
	for _, c := range l {
		c.Up.Row = withRoom(c.Up.Row, r("spare", 77)...)
		c.Front = withRoom(c.Front, pair(-7, -8), zero)
		c.Sheet = withRoom(c.Sheet, 0, 80, 255)
		own = append(own, c)
	}
	return withRoom(own, install(planOf(1, input(num))), advance(0))
}

// allOf is a session with its spare room, in memory of its own.
func allOf(l []api.Cmd) []api.Cmd {
	var own []api.Cmd
	for _, c := range everything(l) {
		c.Up.Row, c.Front, c.Sheet = everything(c.Up.Row), everything(c.Front), everything(c.Sheet)
		own = append(own, copiedCmd(c))
	}
	return own
}

func spoilCmds(l []api.Cmd) {
	for _, c := range everything(l) {
		spoilList(c.Up.Row, api.Val{Kind: 1, Int: -79, Str: "spoilt"})
		spoilList(c.Front, pair(-77, -78))
		spoilList(c.Sheet, 0x61)
	}
	spoilList(l, api.Cmd{Do: -80})
}

func spoilFronts(f map[int][]api.Time) {
	for _, one := range f {
		spoilList(one, pair(-77, -78))
	}
	clear(f)
	f[-5] = times(zero)
}

// memorySessions are sessions in which much is kept, and such in which little is.
func memorySessions() map[string][]api.Cmd {
	x := chance(99)
	p := planOf(3, input(num), input(text))
	l := map[string][]api.Cmd{
		"none": nil, "refused": cmds(poll(0), insert(0, up(r(1), 0, 0, 1))), "busy": busy(), "installed": cmds(install(wide())),
		"closed":    and(busy(), advance(1), advance(4), advance(6), advance(7), compact(2), compact(8)),
		"too great": cmds(install(p), insert(0, up(r(1), 0, 0, high)), insert(0, up(r(1), 0, 0, 1)), insert(1, up(r("a"), 0, 0, 1))),
	}
	for i := range 12 {
		l[fmt.Sprint("drawn ", i)] = draw(&x, "", drawPlan(&x, 1+i%4, 3+x.below(5)), 60).cmds
	}
	return l
}

// told is all that the functions tell of a session, in memory of its own.
type told struct {
	kept, tidied []api.Cmd
	fronts       map[int][]api.Time
	codes        [3]api.Errno
	outs         [][]api.Up
	last         [][]api.Time
}

func copiedFronts(f map[int][]api.Time) map[int][]api.Time {
	own := map[int][]api.Time{}
	for at, one := range f {
		own[at] = slices.Clone(one)
	}
	return own
}

func ask(l []api.Cmd, since []api.Time) told {
	var a told
	a.kept = copiedCmds(journal.Keep(l))
	tidied, e := journal.Tidy(l, since)
	a.tidied, a.codes[0] = copiedCmds(tidied), e
	fronts, e := journal.Fronts(l)
	a.fronts, a.codes[1] = copiedFronts(fronts), e
	g, e := journal.Restore(l)
	a.codes[2] = e
	a.outs, a.last = seen(g)
	return a
}

// seen is what an engine tells of its outs and of its nodes' frontiers.
func seen(g *engine.Engine) (outs [][]api.Up, fronts [][]api.Time) {
	p, _ := g.Plan()
	for i := range p.Outs {
		l, _ := g.Flow().Out(i)
		outs = append(outs, l)
	}
	for at := range p.Nodes {
		f, _ := g.Flow().Frontier(at)
		fronts = append(fronts, f)
	}
	return outs, fronts
}

func sameUps(a, b []api.Up) bool {
	return slices.EqualFunc(a, b, func(x, y api.Up) bool { return sameRow(x.Row, y.Row) && x.Time == y.Time && x.Diff == y.Diff })
}

func sameTold(a, b told) bool {
	return sameCmds(a.kept, b.kept) && sameCmds(a.tidied, b.tidied) && maps.EqualFunc(a.fronts, b.fronts, slices.Equal[[]api.Time]) && a.codes == b.codes &&
		slices.EqualFunc(a.outs, b.outs, sameUps) && slices.EqualFunc(a.last, b.last, slices.Equal[[]api.Time])
}

// memorySinces are such as may be, and such as may not.
func memorySinces() [][]api.Time {
	return [][]api.Time{times(zero), times(pair(0, 1), pair(1, 0)), times(pair(9, 9), pair(8, 8)), times(pair(99, 99)), nil, times(pair(-1, 0))}
}

func TestWhatIsHandedInIsLeft(t *testing.T) { // the rule of memory: neither changed nor kept, spare room included: commands with their rows, Fronts and Sheets, since
	for name, l := range memorySessions() {
		for _, since := range memorySinces() {
			want := ask(l, since)
			given, from := roomy(l), withRoom(since, pair(-5, -6), zero)
			before, all := allOf(given), slices.Clone(everything(from))
			kept := journal.Keep(given)
			tidied, e := journal.Tidy(given, from)
			fronts, _ := journal.Fronts(given)
			g, _ := journal.Restore(given)
			if !reflect.DeepEqual(allOf(given), before) || !slices.Equal(everything(from), all) {
				t.Fatalf("%s: it was changed, or its spare room", name)
			}
			spoilCmds(given)
			spoilList(from, pair(-77, -78))
			got := told{kept: kept, tidied: tidied, fronts: fronts, codes: want.codes}
			got.outs, got.last = seen(g)
			if e != want.codes[0] || !sameTold(got, want) {
				t.Fatalf("%s: what was handed in is written over, and so is what was told: %s; want %s", name, brief(got), brief(want))
			}
		}
	}
}

func TestRestoredKeepsNothing(t *testing.T) { // the rule of memory: an engine goes on rightly where what it was restored from is written over
	for name, l := range memorySessions() {
		given := roomy(l)
		g, e := journal.Restore(given)
		spoilCmds(given)
		want, f := journal.Restore(l)
		if e != f {
			t.Fatalf("%s: error %d, and %d", name, int(e), int(f))
		}
		if e != api.OK {
			continue
		}
		settle(t, name, g, 20)
		settle(t, name, want, 20)
		holdAlike(t, name, g, want)
		samePeeks(t, name, g, want, times(zero), 6)
	}
}

// places are where the things of lists lie, each of which may be there but once. They keep what was told, so that no memory is told twice only because it came to be free.
type places map[unsafe.Pointer]string

func take[T any](t *testing.T, p places, name string, l []T) {
	t.Helper()
	for i := range everything(l) {
		place := unsafe.Pointer(&everything(l)[i])
		if other, there := p[place]; there {
			t.Fatalf("%s lies where %s does", name, other)
		}
		p[place] = name
	}
}

func takeCmds(t *testing.T, p places, name string, l []api.Cmd) (lists int) {
	t.Helper()
	take(t, p, name+": commands", l)
	for i, c := range everything(l) {
		take(t, p, fmt.Sprintf("%s: the row of command %d", name, i), c.Up.Row)
		take(t, p, fmt.Sprintf("%s: the frontier of command %d", name, i), c.Front)
		take(t, p, fmt.Sprintf("%s: the sheet of command %d", name, i), c.Sheet)
		lists += min(1, len(c.Up.Row)) + min(1, len(c.Front)) + min(1, len(c.Sheet))
	}
	return lists
}

func takeFronts(t *testing.T, p places, name string, f map[int][]api.Time) (lists int) {
	t.Helper()
	for at, one := range f {
		take(t, p, fmt.Sprintf("%s: the frontier of input %d", name, at), one)
		lists += min(1, len(one))
	}
	return lists
}

func TestAnswersAreTheirOwn(t *testing.T) { // the rule of memory: no list, spare room too, lies where another one does, or what was handed in
	taken, lists := places{}, 0
	for name, l := range memorySessions() {
		given := roomy(l)
		takeCmds(t, taken, name+": given", given)
		for _, since := range memorySinces() {
			from := withRoom(since, pair(-5, -6))
			take(t, taken, name+": since", from)
			for range 2 {
				lists += takeCmds(t, taken, name+": Keep", journal.Keep(given))
				tidied, _ := journal.Tidy(given, from)
				lists += takeCmds(t, taken, name+": Tidy", tidied)
				f, _ := journal.Fronts(given)
				lists += takeFronts(t, taken, name+": Fronts", f)
			}
		}
	}
	if lists < 5000 {
		t.Fatalf("only %d", lists)
	}
}

func TestOneListManyTimes(t *testing.T) { // the rule of memory: commands that have one row, one frontier and one sheet between them
	row, f := r(1), times(pair(1, 0))
	b := bytesOf(planOf(9, input(num), input(num), arrange(0, 1), arrange(1, 1)))
	var l []api.Cmd
	for _, c := range cmds(install(planOf(1, input())), insert(0, api.Up{Diff: 1}), insert(1, api.Up{Diff: 2}), insert(1, up(nil, 0, 1, 1)), advance(0), advance(1), compact(2), compact(3), compact(3)) {
		c.Up.Row, c.Front, c.Sheet = row, f, b
		l = append(l, c)
	}
	taken := places{}
	take(t, taken, "the row", row)
	take(t, taken, "the frontier", f)
	take(t, taken, "the sheet", b)
	want := cmds(api.Cmd{Sheet: b}, insert(0, up(row, 0, 0, 1)), insert(1, up(row, 0, 0, 2)), insert(1, up(row, 0, 1, 1)), advance(0, f...), advance(1, f...), compact(2, f...), compact(3, f...))
	kept := journal.Keep(l)
	if bad := difference(kept, and(want, compact(3, f...))); bad != "" {
		t.Fatal(bad)
	}
	takeCmds(t, taken, "Keep", kept)
	tidied, e := journal.Tidy(l, times(zero))
	if bad := difference(tidied, want); e != api.OK || bad != "" {
		t.Fatal(int(e), bad)
	}
	takeCmds(t, taken, "Tidy", tidied)
	fronts, e := journal.Fronts(l)
	if e != api.OK || len(fronts) != 2 {
		t.Fatal(int(e), fronts)
	}
	takeFronts(t, taken, "Fronts", fronts)
}

func TestOneSince(t *testing.T) { // the rule of memory: since is an insert's frontier, and an advance's
	f := times(pair(1, 0))
	l := cmds(install(planOf(9, input(num), arrange(0, 1))), insert(0, up(r(1), 0, 0, 1)), advance(0, f...), compact(1, f...))
	taken := places{}
	take(t, taken, "since", f)
	got, e := journal.Tidy(l, l[2].Front)
	if e != api.OK || len(got) != 4 {
		t.Fatal(int(e), got)
	}
	takeCmds(t, taken, "Tidy", got)
	spoilCmds(got)
	again, e := journal.Tidy(l, l[2].Front)
	if bad := difference(again, cmds(l[0], insert(0, up(r(1), 1, 0, 1)), l[2], l[3])); e != api.OK || bad != "" {
		t.Fatal(int(e), bad)
	}
}

func TestPartsOfOneAnswer(t *testing.T) { // the rule of memory: one command, or one frontier, is written over, and the others stay
	l := and(busy(), compact(5, pair(0, 0)))
	for name, tell := range map[string]func() []api.Cmd{
		"Keep": func() []api.Cmd { return journal.Keep(l) },
		"Tidy": func() []api.Cmd { got, _ := journal.Tidy(l, times(zero)); return got },
	} {
		want := copiedCmds(tell())
		for i := range want {
			got := tell()
			got[i].Up.Row = append(got[i].Up.Row, r(5)...)
			got[i].Front = append(got[i].Front, zero)
			got[i].Sheet = append(got[i].Sheet, 7)
			spoilCmds(got[i : i+1 : i+1])
			got[i] = want[i]
			if bad := difference(got, want); bad != "" {
				t.Fatalf("%s: command %d is written over: %s", name, i, bad)
			}
		}
	}
	want, _ := journal.Fronts(l)
	for at := range want {
		got, _ := journal.Fronts(l)
		got[at] = append(got[at], zero)
		spoilList(got[at], pair(-77, -78))
		got[at] = want[at]
		if !maps.EqualFunc(got, want, slices.Equal[[]api.Time]) {
			t.Fatalf("the frontier of input %d is written over: %v", at, got)
		}
	}
}

func TestTheSameTwice(t *testing.T) { // from arguments alone: the same, in the same order, also behind other calls, behind errors, and where an answer is written over
	for round := range 3 {
		for name, l := range memorySessions() {
			for _, since := range memorySinces() {
				want := ask(l, since)
				kept := journal.Keep(l)
				tidied, _ := journal.Tidy(l, since)
				f, e := journal.Fronts(l)
				spoilCmds(kept)
				spoilCmds(tidied)
				if e == api.OK {
					spoilFronts(f)
				}
				if g, e := journal.Restore(l); e == api.OK {
					g.Do(advance(0))
					settle(t, name, g, 9)
				}
				journal.Tidy(busy(), times(pair(7, 7)))
				if got := ask(l, since); !sameTold(got, want) {
					t.Errorf("%s, round %d: %s, want %s", name, round, brief(got), brief(want))
				}
			}
		}
	}
}

func TestZerosBesideErrors(t *testing.T) { // the rule of the first error: every other result is zero
	for name, l := range memorySessions() {
		for _, since := range memorySinces() {
			if got, e := journal.Tidy(l, since); e != api.OK && got != nil {
				t.Errorf("%s: Tidy: %s beside %d", name, brief(got), int(e))
			}
		}
		if f, e := journal.Fronts(l); e != api.OK && f != nil {
			t.Errorf("%s: Fronts: %v beside %d", name, f, int(e))
		}
		if g, e := journal.Restore(l); (e != api.OK) != (g == nil) {
			t.Errorf("%s: Restore: error %d", name, int(e))
		}
	}
}

func TestWhatIsGoneIsNotKept(t *testing.T) { // no more is kept than is needed: neither an answer nor an engine keeps what was handed in
	given := roomy(and(busy(), step(0, 9), poll(0)))
	var rows []weak.Pointer[api.Val]
	var moments []weak.Pointer[api.Time]
	var bytes []weak.Pointer[byte]
	for _, c := range given {
		rows = append(rows, weak.Make(&c.Up.Row[:1][0]))
		moments = append(moments, weak.Make(&c.Front[:1][0]))
		bytes = append(bytes, weak.Make(&c.Sheet[:1][0]))
	}
	kept := journal.Keep(given)
	tidied, _ := journal.Tidy(given, times(zero))
	f, _ := journal.Fronts(given)
	g, _ := journal.Restore(given)
	given = nil
	runtime.GC()
	runtime.GC()
	isGone(t, "a row", rows)
	isGone(t, "a frontier", moments)
	isGone(t, "a sheet", bytes)
	runtime.KeepAlive(kept)
	runtime.KeepAlive(tidied)
	runtime.KeepAlive(f)
	runtime.KeepAlive(g)
}

func isGone[T any](t *testing.T, name string, l []weak.Pointer[T]) {
	t.Helper()
	for i, x := range l {
		if x.Value() != nil {
			t.Fatalf("%s, number %d, is kept", name, i)
		}
	}
}

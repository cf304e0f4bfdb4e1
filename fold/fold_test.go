package fold_test

import (
	"fmt"
	"math"
	"slices"
	"strings"
	"testing"

	"runnel/api"
	"runnel/fold"
	"runnel/group"
	"runnel/moment"
	"runnel/row"
	"runnel/spine"
	"runnel/zset"
)

const (
	low  = math.MinInt
	high = math.MaxInt
)

func n(x int) api.Val    { return api.Val{Kind: api.KindInt, Int: x} }
func s(x string) api.Val { return api.Val{Kind: api.KindStr, Str: x} }

// odd is a value whose kind is none.
func odd(kind int) api.Val { return api.Val{Kind: kind, Int: 7, Str: "odd"} }

// r is a row of numbers, texts and values.
func r(values ...any) api.Row {
	var l api.Row
	for _, v := range values {
		switch x := v.(type) {
		case int:
			l = append(l, n(x))
		case string:
			l = append(l, s(x))
		case api.Val:
			l = append(l, x)
		}
	}
	return l
}

// wide is a row of so many numbers.
func wide(length, from int) api.Row {
	var l api.Row
	for i := range length {
		l = append(l, n(from+i))
	}
	return l
}

func at(epoch, round int) api.Time { return api.Time{Epoch: epoch, Round: round} }

func times(l ...api.Time) []api.Time { return l }

func up(r api.Row, epoch, round, diff int) api.Up {
	return api.Up{Row: r, Time: at(epoch, round), Diff: diff}
}

func ups(l ...api.Up) []api.Up { return l }

func same(u, v api.Up) bool {
	return row.Same(u.Row, v.Row) && u.Time == v.Time && u.Diff == v.Diff
}

func sameCount(a, b api.Count) bool { return row.Same(a.Row, b.Row) && a.Diff == b.Diff }

// copied is a list of changes in memory of its own.
func copied(l []api.Up) []api.Up {
	var own []api.Up
	for _, u := range l {
		u.Row = slices.Clone(u.Row)
		own = append(own, u)
	}
	return own
}

// told is x as a text that is not too long to be read.
func told(x any) string {
	text := strings.ToValidUTF8(fmt.Sprintf("%+v", x), "?")
	if len(text) > 500 {
		text = text[:500] + " .."
	}
	return text
}

func isTime(t api.Time) bool {
	return t.Epoch >= 0 && t.Epoch <= api.MaxTime && t.Round >= 0 && t.Round <= api.MaxTime
}

// advanced: is one of f not above t in either way?
func advanced(f []api.Time, t api.Time) bool {
	return slices.ContainsFunc(f, func(u api.Time) bool { return u.Epoch <= t.Epoch && u.Round <= t.Round })
}

// least are the times to which no other one is LessEq, each once, in order: each is held against each.
func least(l []api.Time) []api.Time {
	var told []api.Time
	for _, t := range l {
		isAbove := func(u api.Time) bool { return u != t && u.Epoch <= t.Epoch && u.Round <= t.Round }
		if !slices.ContainsFunc(l, isAbove) && !slices.Contains(told, t) {
			told = append(told, t)
		}
	}
	slices.SortFunc(told, moment.Order)
	return told
}

// task is a key, and a time at which it is to do.
type task struct {
	key  api.Row
	time api.Time
}

func (k task) is(l task) bool { return k.time == l.time && row.Same(k.key, l.key) }

// ahead: does it come first? By the time, then by the key.
func (k task) ahead(l task) bool {
	if k.time != l.time {
		return moment.Order(k.time, l.time) < 0
	}
	return row.Order(k.key, l.key) < 0
}

// watched is a fold, and what the chapter says of it: a plain list of all that was accepted, of which nothing is advanced or merged, one of all that was told, and one, in no order, of what is to do. Beside them stand two spines that are handed what those of the fold must be.
type watched struct {
	t                  *testing.T
	name               string
	kind, key, n, cols int
	f                  *fold.Fold
	accepted, told     []api.Up
	todo               []task
	front, since       []api.Time
	spines             [2]*spine.Spine
	steps              int                // how many were done
	fewer              int                // how often a spine told fewer times than all that was accepted has, where rows were no more
	calls              []func(*fold.Fold) // all that was done
}

func watch(t *testing.T, name string, kind, key, count, cols int) *watched {
	t.Helper()
	f, e := fold.New(kind, key, count, cols)
	if e != api.OK || f == nil {
		t.Fatalf("%s: New(%d, %d, %d, %d): fold %v, error %d", name, kind, key, count, cols, f != nil, int(e))
	}
	if kind == api.GroupDistinct {
		key = cols
	}
	w := &watched{t: t, name: name, kind: kind, key: key, n: count, cols: cols, f: f, front: times(at(0, 0)), since: times(at(0, 0))}
	for side := range 2 {
		w.spines[side], _ = spine.New(key)
	}
	w.hold("new")
	return w
}

// again is another fold, which is brought to where this one is by the same calls.
func (w *watched) again() *fold.Fold {
	f, _ := fold.New(w.kind, w.key, w.n, w.cols)
	for _, call := range w.calls {
		call(f)
	}
	return f
}

func (w *watched) times() []api.Time {
	var l []api.Time
	for _, k := range w.todo {
		l = append(l, k.time)
	}
	return l
}

// due is the place of the first one that is due; -1, if there is none.
func (w *watched) due() int {
	first := -1
	for i, k := range w.todo {
		if !advanced(w.front, k.time) && (first < 0 || k.ahead(w.todo[first])) {
			first = i
		}
	}
	return first
}

// hold asks all that may be asked and changes nothing.
func (w *watched) hold(step string) {
	w.t.Helper()
	name := w.name + ", " + step
	if got := w.f.Todo(); got != len(w.todo) {
		w.t.Fatalf("%s: Todo is %d, want %d", name, got, len(w.todo))
	}
	if got, want := w.f.Lower(), least(w.times()); !slices.Equal(got, want) {
		w.t.Fatalf("%s: Lower is %s, want %s", name, told(got), told(want))
	}
	if got, want := w.f.Due(), w.due() >= 0; got != want {
		w.t.Fatalf("%s: Due is %v, want %v", name, got, want)
	}
	if got, want := w.f.Still(), w.spines[0].Still() && w.spines[1].Still(); got != want {
		w.t.Fatalf("%s: Still is %v, want %v", name, got, want)
	}
	w.holdSide(name, 0, w.accepted)
	w.holdSide(name, 1, w.told)
}

// holdSide asks whether a side is the spine that it must be, with so many changes.
func (w *watched) holdSide(name string, side int, list []api.Up) {
	w.t.Helper()
	name = fmt.Sprint(name, ": side ", side)
	got, want := w.f.Side(side), w.spines[side]
	if got == nil {
		w.t.Fatalf("%s is nil", name)
	}
	if !slices.Equal(got.Since(), w.since) {
		w.t.Fatalf("%s: Since is %s, want %s", name, told(got.Since()), told(w.since))
	}
	if got.Total() != len(list) || got.Still() != want.Still() {
		w.t.Fatalf("%s: Total %d, Still %v; want %d, %v", name, got.Total(), got.Still(), len(list), want.Still())
	}
	if !slices.EqualFunc(got.Ups(), want.Ups(), same) {
		w.t.Fatalf("%s: Ups are %s, want %s", name, told(got.Ups()), told(want.Ups()))
	}
	gotBatches, wantBatches := got.Batches(), want.Batches()
	if len(gotBatches) != len(wantBatches) {
		w.t.Fatalf("%s: %d batches, want %d", name, len(gotBatches), len(wantBatches))
	}
	for i, b := range gotBatches {
		if b.Key() != w.key || b.Weight() != wantBatches[i].Weight() || !slices.Equal(b.Since(), wantBatches[i].Since()) {
			w.t.Fatalf("%s: batch %d: Key %d, Weight %d, Since %v", name, i, b.Key(), b.Weight(), b.Since())
		}
	}
}

// mayAccept is the error that the chapter names first.
func (w *watched) mayAccept(u api.Up) api.Errno {
	switch {
	case len(u.Row) != w.cols:
		return api.ErrRange
	case !isTime(u.Time) || !advanced(w.front, u.Time):
		return api.ErrTime
	}
	return api.OK
}

func (w *watched) mayAdvance(f []api.Time) api.Errno {
	switch {
	case len(f) > api.MaxFront:
		return api.ErrMany
	case slices.ContainsFunc(f, func(t api.Time) bool { return !isTime(t) }):
		return api.ErrTime
	case !slices.Equal(least(f), f):
		return api.ErrForm
	case slices.ContainsFunc(f, func(t api.Time) bool { return !advanced(w.front, t) }):
		return api.ErrTime
	}
	return api.OK
}

// withKey are those of a list that have a key.
func (w *watched) withKey(l []api.Up, key api.Row) []api.Up {
	var of []api.Up
	for _, u := range l {
		if row.Same(u.Row[:w.key], key) {
			of = append(of, u)
		}
	}
	return of
}

// meetings are the times at which a time meets those of changes, itself too, each once.
func meetings(t api.Time, l []api.Up) []api.Time {
	all := times(t)
	for _, u := range l {
		if both := at(max(t.Epoch, u.Time.Epoch), max(t.Round, u.Time.Round)); !slices.Contains(all, both) {
			all = append(all, both)
		}
	}
	return all
}

// isThere: are all of these changes such of which there are more from then on?
func isThere(l []api.Up) bool {
	return !slices.ContainsFunc(l, func(u api.Up) bool { return u.Diff <= 0 })
}

// plan lays to what is to do what a change brings, as the spine tells the times; the spine may tell fewer than the plain list has, but only where rows are no more.
func (w *watched) plan(u api.Up) {
	w.t.Helper()
	key := u.Row[:w.key]
	of := w.withKey(w.accepted, key)
	brings, plain := meetings(u.Time, w.spines[0].Run(key)), meetings(u.Time, of)
	for _, t := range brings {
		if !slices.Contains(plain, t) {
			w.t.Fatalf("%s: the spine tells a time that meets %v at %v", w.name, u.Time, t)
		}
	}
	if len(brings) < len(plain) {
		if isThere(of) {
			w.t.Fatalf("%s: the spine's times meet %v at %v, all at %v", w.name, u.Time, brings, plain)
		}
		w.fewer++
	}
	for _, t := range brings {
		k := task{key, t}
		if !slices.ContainsFunc(w.todo, k.is) {
			w.todo = append(w.todo, k)
		}
	}
}

// forget brings the spines to where the chapter says that they are behind an Advance and a Step.
func (w *watched) forget() {
	w.t.Helper()
	all := least(append(w.times(), w.front...))
	if len(all) > api.MaxFront {
		return
	}
	w.since = all
	for side := range 2 {
		if e := w.spines[side].Advance(all); e != api.OK {
			w.t.Fatalf("%s: a spine is not advanced to %s: error %d", w.name, told(all), int(e))
		}
	}
}

// comes is what comes at a time of a plain list.
func (w *watched) comes(l []api.Up, time api.Time) []api.Count {
	w.t.Helper()
	there, e := zset.At(l, time)
	if e != api.OK {
		w.t.Fatalf("%s: At: error %d", w.name, int(e))
	}
	made, e := group.Make(w.kind, w.key, w.n, there)
	if e != api.OK {
		w.t.Fatalf("%s: Make: error %d", w.name, int(e))
	}
	return made
}

// owes is what must be told of a task: what comes of what was accepted, less what was told, row by row.
func (w *watched) owes(k task) []api.Up {
	w.t.Helper()
	diffs := map[string]int{}
	rows := map[string]api.Row{}
	count := func(x api.Row, diff int) {
		name := fmt.Sprintf("%q", plainRow(x))
		diffs[name] += diff
		rows[name] = x
	}
	for _, c := range w.comes(w.withKey(w.accepted, k.key), k.time) {
		count(c.Row, c.Diff)
	}
	for _, u := range w.told {
		if row.Same(u.Row[:w.key], k.key) && u.Time.Epoch <= k.time.Epoch && u.Time.Round <= k.time.Round {
			count(u.Row, -u.Diff)
		}
	}
	var l []api.Up
	for name, diff := range diffs {
		if diff != 0 {
			l = append(l, api.Up{Row: rows[name], Time: k.time, Diff: diff})
		}
	}
	slices.SortFunc(l, func(u, v api.Up) int { return row.Order(u.Row, v.Row) })
	return l
}

// plainRow is a row as texts, in which nothing stands that plays no part.
func plainRow(x api.Row) []string {
	var l []string
	for _, v := range x {
		switch v.Kind {
		case api.KindInt:
			l = append(l, fmt.Sprint("number ", v.Int))
		case api.KindStr:
			l = append(l, "text "+v.Str)
		default:
			l = append(l, fmt.Sprint("kind ", v.Kind))
		}
	}
	return l
}

// acceptOnly, advanceOnly, stepOnly and workOnly ask no more than the call itself does.
func (w *watched) acceptOnly(u api.Up) api.Errno {
	w.t.Helper()
	own := copied(ups(u))[0]
	want := w.mayAccept(u)
	if e := w.f.Accept(u); e != want {
		w.t.Fatalf("%s: Accept(%s): error %d, want %d", w.name, told(u), int(e), int(want))
	}
	w.calls = append(w.calls, func(f *fold.Fold) { f.Accept(own) })
	if want == api.OK {
		w.accepted = append(w.accepted, own)
		if e := w.spines[0].Insert(ups(own)); e != api.OK {
			w.t.Fatalf("%s: Insert: error %d", w.name, int(e))
		}
		w.plan(own)
	}
	return want
}

func (w *watched) advanceOnly(f []api.Time) api.Errno {
	w.t.Helper()
	own := slices.Clone(f)
	want := w.mayAdvance(f)
	if e := w.f.Advance(f); e != want {
		w.t.Fatalf("%s: Advance(%s): error %d, want %d", w.name, told(f), int(e), int(want))
	}
	w.calls = append(w.calls, func(f *fold.Fold) { f.Advance(own) })
	if want == api.OK {
		w.front = own
		w.forget()
	}
	return want
}

// stepOnly tells what the Step told, too.
func (w *watched) stepOnly() (out []api.Up, did bool) {
	w.t.Helper()
	out, did, e := w.f.Step()
	w.calls = append(w.calls, func(f *fold.Fold) { f.Step() })
	first := w.due()
	if first < 0 {
		if len(out) > 0 || did || e != api.OK {
			w.t.Fatalf("%s: Step of none: %s, %v, error %d", w.name, told(out), did, int(e))
		}
		w.forget()
		return nil, false
	}
	k := w.todo[first]
	want := w.owes(k)
	if !did || e != api.OK || !slices.EqualFunc(out, want, same) {
		w.t.Fatalf("%s: Step: %s, %v, error %d; want %s of %v at %v", w.name, told(out), did, int(e), told(want), k.key, k.time)
	}
	if slices.ContainsFunc(out, func(u api.Up) bool { return advanced(w.front, u.Time) }) {
		w.t.Fatalf("%s: Step: %s in advance of %v", w.name, told(out), w.front)
	}
	w.todo = slices.Delete(w.todo, first, first+1)
	w.told = append(w.told, copied(out)...)
	w.steps++
	if e := w.spines[1].Insert(copied(out)); e != api.OK {
		w.t.Fatalf("%s: Insert: error %d", w.name, int(e))
	}
	w.forget()
	return out, true
}

func (w *watched) workOnly(fuel int) (left int) {
	w.t.Helper()
	want, e := w.spines[0].Work(fuel)
	if e == api.OK {
		want, e = w.spines[1].Work(want)
	}
	got, gotErr := w.f.Work(fuel)
	if got != want || gotErr != e || e != api.OK {
		w.t.Fatalf("%s: Work(%d): %d, error %d; want %d, %d", w.name, fuel, got, int(gotErr), want, int(e))
	}
	w.calls = append(w.calls, func(f *fold.Fold) { f.Work(fuel) })
	return got
}

func (w *watched) accept(l ...api.Up) {
	w.t.Helper()
	for _, u := range l {
		w.refuses(u, api.OK)
	}
}

// refuses is an Accept with an error: nothing has changed.
func (w *watched) refuses(u api.Up, want api.Errno) {
	w.t.Helper()
	step := fmt.Sprintf("Accept(%s)", told(u))
	if e := w.acceptOnly(u); e != want {
		w.t.Fatalf("%s: %s: error %d, want %d", w.name, step, int(e), int(want))
	}
	w.hold(step)
}

func (w *watched) advance(f ...api.Time) {
	w.t.Helper()
	w.stays(f, api.OK)
}

// stays is an Advance with an error: nothing has changed.
func (w *watched) stays(f []api.Time, want api.Errno) {
	w.t.Helper()
	step := fmt.Sprintf("Advance(%s)", told(f))
	if e := w.advanceOnly(f); e != want {
		w.t.Fatalf("%s: %s: error %d, want %d", w.name, step, int(e), int(want))
	}
	w.hold(step)
}

func (w *watched) work(fuel int) (left int) {
	w.t.Helper()
	left = w.workOnly(fuel)
	w.hold(fmt.Sprintf("Work(%d)", fuel))
	return left
}

// step is a Step that is done and tells these.
func (w *watched) step(want ...api.Up) {
	w.t.Helper()
	out, did := w.stepOnly()
	if !did || !slices.EqualFunc(out, want, same) {
		w.t.Fatalf("%s: Step: %s, %v, want %s", w.name, told(out), did, told(want))
	}
	w.hold("Step")
}

// none is a Step that does nothing.
func (w *watched) none() {
	w.t.Helper()
	for range 2 {
		if out, did := w.stepOnly(); did {
			w.t.Fatalf("%s: Step tells %s", w.name, told(out))
		}
		w.hold("Step of none")
	}
}

// all does what is due, one after the other.
func (w *watched) all() {
	w.t.Helper()
	for did := true; did; {
		_, did = w.stepOnly()
		w.hold("Step")
	}
	w.none()
}

// ask asks how many are to do, whether something is due, and from where on something is to do.
func (w *watched) ask(todo int, due bool, lower ...api.Time) {
	w.t.Helper()
	if w.f.Todo() != todo || w.f.Due() != due || !slices.Equal(w.f.Lower(), lower) {
		w.t.Fatalf("%s: Todo %d, Due %v, Lower %v; want %d, %v, %v", w.name, w.f.Todo(), w.f.Due(), w.f.Lower(), todo, due, lower)
	}
}

func TestThePage(t *testing.T) { // P23.2, P23.3: the page's example
	f, e := fold.New(api.GroupCount, 1, 0, 2)
	if e != api.OK {
		t.Fatalf("error %d", int(e))
	}
	for _, u := range ups(up(r(1, 5), 0, 0, 1), up(r(1, 6), 1, 0, 1)) {
		if e := f.Accept(u); e != api.OK {
			t.Fatalf("error %d", int(e))
		}
	}
	if e := f.Advance(times(at(2, 0))); e != api.OK || f.Todo() != 2 || !f.Due() {
		t.Fatalf("error %d, Todo %d, Due %v", int(e), f.Todo(), f.Due())
	}
	for i, want := range [][]api.Up{ups(up(r(1, 1), 0, 0, 1)), ups(up(r(1, 1), 1, 0, -1), up(r(1, 2), 1, 0, 1))} {
		if out, did, e := f.Step(); !did || e != api.OK || !slices.EqualFunc(out, want, same) {
			t.Fatalf("Step %d: %v, %v, error %d, want %v", i, out, did, int(e), want)
		}
	}
	if out, did, e := f.Step(); did || e != api.OK || len(out) > 0 || f.Todo() != 0 || f.Due() || len(f.Lower()) > 0 {
		t.Fatalf("Step: %v, %v, error %d, Todo %d, Due %v, Lower %v", out, did, int(e), f.Todo(), f.Due(), f.Lower())
	}
}

func TestByHand(t *testing.T) { // P23.1 to P23.4: each call, told by hand
	f, _ := fold.New(api.GroupSum, 1, 1, 2)
	fine := func(e api.Errno) {
		t.Helper()
		if e != api.OK {
			t.Fatalf("error %d", int(e))
		}
	}
	ask := func(todo int, due, still bool, lower ...api.Time) {
		t.Helper()
		if f.Todo() != todo || f.Due() != due || f.Still() != still || !slices.Equal(f.Lower(), lower) {
			t.Fatalf("Todo %d, Due %v, Still %v, Lower %v", f.Todo(), f.Due(), f.Still(), f.Lower())
		}
	}
	since := func(want ...api.Time) {
		t.Helper()
		for side := range 2 {
			if got := f.Side(side).Since(); !slices.Equal(got, want) {
				t.Fatalf("Since of side %d is %v, want %v", side, got, want)
			}
		}
	}
	step := func(want ...api.Up) {
		t.Helper()
		if out, did, e := f.Step(); !did || e != api.OK || !slices.EqualFunc(out, want, same) {
			t.Fatalf("Step: %v, %v, error %d, want %v", out, did, int(e), want)
		}
	}
	ask(0, false, true)
	since(at(0, 0))
	fine(f.Accept(up(r("k", 5), 1, 0, 2)))
	ask(1, false, true, at(1, 0))
	fine(f.Accept(up(r("k", 7), 0, 2, 1)))
	ask(3, false, false, at(0, 2), at(1, 0)) // (0, 2), (1, 0), and (1, 2), where they meet
	fine(f.Accept(up(r("a", -1), 0, 2, 1)))
	ask(4, false, false, at(0, 2), at(1, 0))
	fine(f.Accept(up(r("k", 1), 1, 1, 0))) // it meets at (1, 1) and (1, 2)
	ask(5, false, false, at(0, 2), at(1, 0))
	fine(f.Advance(times(at(0, 1))))
	ask(5, true, false, at(0, 2), at(1, 0)) // (1, 0) is due, ahead of (0, 2)
	since(at(0, 1), at(1, 0))
	step(up(r("k", 10), 1, 0, 1))
	ask(4, false, false, at(0, 2), at(1, 1))
	since(at(0, 1))
	fine(f.Advance(times(at(0, 3), at(1, 2))))
	ask(4, true, false, at(0, 2), at(1, 1))
	since(at(0, 2), at(1, 1))
	step(up(r("a", -1), 0, 2, 1))
	step(up(r("k", 7), 0, 2, 1))
	since(at(0, 3), at(1, 1))
	step() // at (1, 1) nothing changes
	ask(1, false, false, at(1, 2))
	since(at(0, 3), at(1, 2))
	if out, did, e := f.Step(); did || e != api.OK || len(out) > 0 {
		t.Fatalf("Step: %v, %v, error %d", out, did, int(e))
	}
	fine(f.Advance(nil))
	since(at(1, 2))
	step(up(r("k", 7), 1, 2, -1), up(r("k", 10), 1, 2, -1), up(r("k", 17), 1, 2, 1))
	ask(0, false, false)
	since()
	if left, e := f.Work(1000); e != api.OK || left <= 0 || left >= 1000 || !f.Still() {
		t.Fatalf("Work: %d, error %d, Still %v", left, int(e), f.Still())
	}
	if e := f.Accept(up(r("k", 5), 9, 9, 2)); e != api.ErrTime {
		t.Fatalf("error %d", int(e))
	}
}

func TestEachGroup(t *testing.T) { // P23.3: what comes of rows, and what comes, and is taken back, when some are no more
	first := ups(up(r(1, 5), 0, 0, 2), up(r(1, 7), 0, 0, 1), up(r(2, 9), 0, 0, -1))
	gone := up(r(1, 5), 1, 0, -2)
	for _, k := range []struct {
		kind, n int
		steps   [][]api.Up // of the first ones
		then    []api.Up
		end     []api.Up // when (1 7) is no more, too
	}{
		{api.GroupDistinct, 0, [][]api.Up{ups(up(r(1, 5), 0, 0, 1)), ups(up(r(1, 7), 0, 0, 1)), nil}, ups(up(r(1, 5), 1, 0, -1)), ups(up(r(1, 7), 2, 0, -1))},
		{api.GroupCount, 0, [][]api.Up{ups(up(r(1, 3), 0, 0, 1)), ups(up(r(2, -1), 0, 0, 1))}, ups(up(r(1, 1), 1, 0, 1), up(r(1, 3), 1, 0, -1)), ups(up(r(1, 1), 2, 0, -1))},
		{api.GroupSum, 1, [][]api.Up{ups(up(r(1, 17), 0, 0, 1)), ups(up(r(2, -9), 0, 0, 1))}, ups(up(r(1, 7), 1, 0, 1), up(r(1, 17), 1, 0, -1)), ups(up(r(1, 7), 2, 0, -1))},
		{api.GroupSum, 0, [][]api.Up{ups(up(r(1, 3), 0, 0, 1)), ups(up(r(2, -2), 0, 0, 1))}, ups(up(r(1, 1), 1, 0, 1), up(r(1, 3), 1, 0, -1)), ups(up(r(1, 1), 2, 0, -1))},
		{api.GroupMin, 0, [][]api.Up{ups(up(r(1, 5), 0, 0, 1)), nil}, ups(up(r(1, 5), 1, 0, -1), up(r(1, 7), 1, 0, 1)), ups(up(r(1, 7), 2, 0, -1))},
		{api.GroupMax, 0, [][]api.Up{ups(up(r(1, 7), 0, 0, 1)), nil}, nil, ups(up(r(1, 7), 2, 0, -1))},
		{api.GroupTop, 1, [][]api.Up{ups(up(r(1, 5), 0, 0, 1)), nil}, ups(up(r(1, 5), 1, 0, -1), up(r(1, 7), 1, 0, 1)), ups(up(r(1, 7), 2, 0, -1))},
		{api.GroupTop, 2, [][]api.Up{ups(up(r(1, 5), 0, 0, 2)), nil}, ups(up(r(1, 5), 1, 0, -2), up(r(1, 7), 1, 0, 1)), ups(up(r(1, 7), 2, 0, -1))},
		{api.GroupTop, 3, [][]api.Up{ups(up(r(1, 5), 0, 0, 2), up(r(1, 7), 0, 0, 1)), nil}, ups(up(r(1, 5), 1, 0, -2)), ups(up(r(1, 7), 2, 0, -1))},
		{api.GroupTop, api.MaxTop, [][]api.Up{ups(up(r(1, 5), 0, 0, 2), up(r(1, 7), 0, 0, 1)), nil}, ups(up(r(1, 5), 1, 0, -2)), ups(up(r(1, 7), 2, 0, -1))},
	} {
		w := watch(t, fmt.Sprint("kind ", k.kind, " n ", k.n), k.kind, 1, k.n, 2)
		w.accept(first...)
		w.accept(gone, up(r(1, 7), 2, 0, -1))
		w.none()
		w.advance(at(1, 0))
		for _, want := range k.steps {
			w.step(want...)
		}
		w.none()
		w.advance(at(2, 0))
		w.step(k.then...)
		if k.kind == api.GroupDistinct {
			w.none()
		}
		w.advance(at(3, 0))
		w.step(k.end...)
		w.none()
		w.ask(0, false)
	}
}

func TestKeys(t *testing.T) { // P23.1, P23.3: keys of no value, of one, of several, of all; rows of just the key's values and of more
	for _, k := range []struct {
		key, cols int
		in        []api.Row
		out       [][]api.Up // of GroupCount, Step by Step
	}{
		{0, 0, []api.Row{nil, {}}, [][]api.Up{ups(up(r(2), 0, 0, 1))}},
		{0, 1, []api.Row{r(1), r("a"), r(1)}, [][]api.Up{ups(up(r(3), 0, 0, 1))}},
		{0, 2, []api.Row{r(1, 2), r("a", 3)}, [][]api.Up{ups(up(r(2), 0, 0, 1))}},
		{1, 1, []api.Row{r("a"), r(1), r("a")}, [][]api.Up{ups(up(r(1, 1), 0, 0, 1)), ups(up(r("a", 2), 0, 0, 1))}},
		{1, 2, []api.Row{r(2, 1), r(1, 2), r(2, 2)}, [][]api.Up{ups(up(r(1, 1), 0, 0, 1)), ups(up(r(2, 2), 0, 0, 1))}},
		{1, 3, []api.Row{r("", 1, 1), r(0, 2, 2), r("", 1, 2)}, [][]api.Up{ups(up(r(0, 1), 0, 0, 1)), ups(up(r("", 2), 0, 0, 1))}},
		{2, 2, []api.Row{r(1, 2), r(2, 1), r(1, 2)}, [][]api.Up{ups(up(r(1, 2, 2), 0, 0, 1)), ups(up(r(2, 1, 1), 0, 0, 1))}},
		{2, 3, []api.Row{r(1, 2, 3), r(1, 2, 4), r(1, 3, 3)}, [][]api.Up{ups(up(r(1, 2, 2), 0, 0, 1)), ups(up(r(1, 3, 1), 0, 0, 1))}},
		{1, 2, []api.Row{r(low, 1), r(high, 1), r("\xff\x00", 1), r("\xff", 1)}, [][]api.Up{ups(up(r(low, 1), 0, 0, 1)), ups(up(r(high, 1), 0, 0, 1)), ups(up(r("\xff", 1), 0, 0, 1)), ups(up(r("\xff\x00", 1), 0, 0, 1))}},
		{1, 2, []api.Row{r(odd(7), 1), r(odd(7), 2), r(odd(-7), 1)}, [][]api.Up{ups(up(r(odd(-7), 1), 0, 0, 1)), ups(up(r(odd(7), 2), 0, 0, 1))}}, // values of a kind that is none are alike
		{1, 1, []api.Row{r(api.Val{Kind: api.KindInt, Int: 4, Str: "one"}), r(api.Val{Kind: api.KindInt, Int: 4, Str: "another"})}, [][]api.Up{ups(up(r(4, 2), 0, 0, 1))}},
		{1, 1, []api.Row{r(api.Val{Kind: api.KindStr, Int: 4, Str: "a"}), r(api.Val{Kind: api.KindStr, Int: 5, Str: "a"})}, [][]api.Up{ups(up(r("a", 2), 0, 0, 1))}},
	} {
		w := watch(t, fmt.Sprint("key ", k.key, " of ", told(k.in)), api.GroupCount, k.key, 0, k.cols)
		for _, x := range k.in {
			w.accept(up(x, 0, 0, 1))
		}
		w.advance(at(0, 1))
		for _, want := range k.out {
			w.step(want...)
		}
		w.none()
	}
}

func TestColumns(t *testing.T) { // P23.1: as few and as many as may be; what comes of a key of MaxCols values has one more
	const cols = api.MaxCols
	for key := range cols + 1 {
		w := watch(t, fmt.Sprint("key ", key), api.GroupCount, key, 0, cols)
		w.accept(up(wide(cols, 1), 0, 0, 2), up(wide(cols, 2), 0, 0, 3), up(wide(cols, 1), 1, 0, 4))
		w.refuses(up(wide(cols+1, 1), 0, 0, 1), api.ErrRange)
		w.refuses(up(wide(cols-1, 1), 0, 0, 1), api.ErrRange)
		w.advance()
		if key == 0 {
			w.step(up(r(5), 0, 0, 1))
			w.step(up(r(5), 1, 0, -1), up(r(9), 1, 0, 1))
			w.none()
			continue
		}
		w.step(up(append(wide(key, 1), n(2)), 0, 0, 1))
		w.step(up(append(wide(key, 2), n(3)), 0, 0, 1))
		w.step(up(append(wide(key, 1), n(2)), 1, 0, -1), up(append(wide(key, 1), n(6)), 1, 0, 1))
		w.none()
	}
	for kind := range api.Groups {
		w := watch(t, fmt.Sprint("no columns, kind ", kind), kind, 0, 1, 0)
		w.accept(up(nil, 0, 0, 3))
		w.refuses(up(r(1), 0, 0, 1), api.ErrRange)
		if kind == api.GroupSum { // there is no column to be added
			continue
		}
		w.advance(at(1, 0))
		want := up(nil, 0, 0, 1)
		if kind == api.GroupCount {
			want.Row = r(3)
		}
		w.step(want)
		w.none()
	}
}

func TestDistinctHasItsOwnKey(t *testing.T) { // P23.1: with any key, below 0 and above cols too, it is the whole row
	for _, key := range []int{low, -1, 0, 1, 2, 3, api.MaxCols, api.MaxCols + 1, high} {
		for _, count := range []int{low, -1, 0, 1, high} {
			w := watch(t, fmt.Sprint("key ", key, " n ", count), api.GroupDistinct, key, count, 2)
			w.accept(up(r(1, 6), 0, 0, 2), up(r(1, 5), 0, 0, 3), up(r(1, 5), 0, 1, -3))
			w.ask(3, false, at(0, 0))
			w.advance(at(1, 0))
			w.step(up(r(1, 5), 0, 0, 1))
			w.step(up(r(1, 6), 0, 0, 1))
			w.step(up(r(1, 5), 0, 1, -1))
			w.none()
		}
	}
}

func TestTop(t *testing.T) { // P23.1, P23.3: of one, and of as many as may be
	w := watch(t, "top 1", api.GroupTop, 0, 1, 1)
	w.accept(up(r(7), 0, 0, 5), up(r(3), 1, 0, 1), up(r(3), 2, 0, -1), up(r(9), 3, 0, 1))
	w.advance(at(9, 0))
	w.step(up(r(7), 0, 0, 1))
	w.step(up(r(3), 1, 0, 1), up(r(7), 1, 0, -1))
	w.step(up(r(3), 2, 0, -1), up(r(7), 2, 0, 1))
	w.step()
	w.none()
	w = watch(t, "top MaxTop", api.GroupTop, 0, api.MaxTop, 1)
	w.accept(up(r(7), 0, 0, api.MaxTop-1), up(r(8), 1, 0, 5), up(r(3), 2, 0, high), up(r(3), 3, 0, 2-high))
	w.advance(at(9, 0))
	w.step(up(r(7), 0, 0, api.MaxTop-1))
	w.step(up(r(8), 1, 0, 1))
	w.step(up(r(3), 2, 0, api.MaxTop), up(r(7), 2, 0, 1-api.MaxTop), up(r(8), 2, 0, -1))
	w.step(up(r(3), 3, 0, 2-api.MaxTop), up(r(7), 3, 0, api.MaxTop-2))
	w.none()
}

func TestNew(t *testing.T) { // P23.1: each error, of two faults the one that is named first, and no fold
	for _, k := range []struct {
		kind, key, n, cols int
		want               api.Errno
	}{
		{-1, 0, 1, 1, api.ErrKind}, {low, 0, 1, 1, api.ErrKind}, {6, 0, 1, 1, api.ErrKind}, {7, 0, 1, 1, api.ErrKind}, {high, 0, 1, 1, api.ErrKind},
		{-1, -1, 0, -1, api.ErrKind}, {6, 9, 0, 17, api.ErrKind}, {6, 0, 0, 17, api.ErrKind}, {6, 2, 1, 1, api.ErrKind}, {6, 0, 0, 1, api.ErrKind},
		{1, 0, 0, -1, api.ErrArg}, {1, 0, 0, low, api.ErrArg}, {1, 0, 0, api.MaxCols + 1, api.ErrArg}, {1, 0, 0, high, api.ErrArg},
		{0, 0, 0, -1, api.ErrArg}, {0, 0, 0, api.MaxCols + 1, api.ErrArg}, {0, -1, 0, -1, api.ErrArg},
		{1, -1, 0, -1, api.ErrArg}, {1, 18, 0, 17, api.ErrArg}, {5, -1, 0, -1, api.ErrArg}, {5, 18, 0, 17, api.ErrArg},
		{1, -1, 0, 2, api.ErrRange}, {1, low, 0, 2, api.ErrRange}, {1, 3, 0, 2, api.ErrRange}, {1, high, 0, 2, api.ErrRange}, {1, 1, 0, 0, api.ErrRange}, {1, api.MaxCols + 1, 0, api.MaxCols, api.ErrRange},
		{2, 3, 0, 2, api.ErrRange}, {3, 3, 0, 2, api.ErrRange}, {4, 3, 0, 2, api.ErrRange}, {5, 3, 1, 2, api.ErrRange}, {2, -1, 0, 2, api.ErrRange}, {3, -1, 0, 2, api.ErrRange}, {4, -1, 0, 2, api.ErrRange}, {5, -1, 1, 2, api.ErrRange},
		{5, 3, 0, 2, api.ErrRange}, {5, -1, api.MaxTop + 1, 2, api.ErrRange},
		{5, 1, 0, 2, api.ErrArg}, {5, 1, -1, 2, api.ErrArg}, {5, 1, low, 2, api.ErrArg}, {5, 1, api.MaxTop + 1, 2, api.ErrArg}, {5, 1, high, 2, api.ErrArg},
		{0, 0, 0, 0, api.OK}, {0, 99, -1, api.MaxCols, api.OK}, {1, 0, 0, 0, api.OK}, {1, api.MaxCols, 0, api.MaxCols, api.OK}, {2, 1, -1, 1, api.OK}, {2, 1, high, 1, api.OK}, {2, 0, 0, 0, api.OK}, {3, 2, low, 2, api.OK}, {4, 2, high, 2, api.OK}, {5, 2, 1, 2, api.OK}, {5, 0, api.MaxTop, 0, api.OK},
	} {
		f, e := fold.New(k.kind, k.key, k.n, k.cols)
		if e != k.want || (f != nil) != (e == api.OK) {
			t.Errorf("New(%d, %d, %d, %d): fold %v, error %d, want %d", k.kind, k.key, k.n, k.cols, f != nil, int(e), int(k.want))
		}
	}
	for kind := range api.Groups {
		for cols := range api.MaxCols + 1 {
			for key := range cols + 1 {
				w := watch(t, fmt.Sprint("kind ", kind, " key ", key, " cols ", cols), kind, key, 1, cols)
				if w.f.Side(0) == w.f.Side(1) {
					t.Errorf("%s: both sides are one spine", w.name)
				}
				w.ask(0, false)
				w.none()
				if left := w.work(5); left != 5 || !w.f.Still() {
					t.Errorf("%s: Work leaves %d, Still %v", w.name, left, w.f.Still())
				}
			}
		}
	}
}

func TestNilFold(t *testing.T) { // P23.1: ErrNil, false, zeros, nothing
	var f *fold.Fold
	for _, u := range ups(api.Up{}, up(r(1), 0, 0, 1), up(nil, -1, -1, 0), up(r("a"), high, low, high)) {
		if e := f.Accept(u); e != api.ErrNil {
			t.Errorf("Accept(%v): error %d", u, int(e))
		}
	}
	for _, l := range [][]api.Time{nil, {}, {at(0, 0)}, {at(5, 5), at(1, 1)}, {at(-1, 0)}, make([]api.Time, api.MaxFront+1)} {
		if e := f.Advance(l); e != api.ErrNil {
			t.Errorf("Advance(%s): error %d", told(l), int(e))
		}
	}
	if out, did, e := f.Step(); len(out) > 0 || did || e != api.ErrNil {
		t.Errorf("Step: %v, %v, error %d", out, did, int(e))
	}
	for _, fuel := range []int{low, -1, 0, 1, high} {
		if left, e := f.Work(fuel); left != 0 || e != api.ErrNil {
			t.Errorf("Work(%d): %d, error %d", fuel, left, int(e))
		}
	}
	for _, side := range []int{0, 1, -1, 2, low, high} {
		if f.Side(side) != nil {
			t.Errorf("Side(%d) is not nil", side)
		}
	}
	if f.Todo() != 0 || f.Due() || len(f.Lower()) != 0 || f.Still() {
		t.Errorf("Todo %d, Due %v, Lower %v, Still %v", f.Todo(), f.Due(), f.Lower(), f.Still())
	}
}

func TestZeroFoldEnds(t *testing.T) { // Ends: what it answers is open, but that it ends
	var f fold.Fold
	for range 2 {
		f.Accept(up(r(1), 0, 0, 1))
		f.Accept(up(nil, 0, 0, 1))
		f.Advance(times(at(0, 0)))
		f.Advance(nil)
		f.Step()
		f.Todo()
		f.Due()
		f.Lower()
		f.Work(5)
		f.Still()
		f.Side(0)
		f.Side(1)
	}
}

func TestEachKeyAndTimeOnce(t *testing.T) { // P23.2, P23.4: a change whose time was to do already, and one whose joined time was
	w := watch(t, "once", api.GroupCount, 1, 0, 2)
	w.accept(up(r(1, 5), 0, 0, 1))
	w.ask(1, false, at(0, 0))
	w.accept(up(r(1, 5), 0, 0, 1), up(r(1, 6), 0, 0, 1), up(r(1, 5), 0, 0, -1))
	w.ask(1, false, at(0, 0))
	w.accept(up(r(1, 5), 1, 0, 1), up(r(1, 6), 0, 1, 1))
	w.ask(4, false, at(0, 0)) // (0, 0), (1, 0), (0, 1), (1, 1)
	w.accept(up(r(1, 9), 1, 1, 1), up(r(1, 9), 0, 0, 1), up(r(1, 9), 1, 0, 1))
	w.ask(4, false, at(0, 0))
	w.accept(up(r(2, 9), 1, 1, 1)) // another key
	w.ask(5, false, at(0, 0))
	w.accept(up(r(1, 9), 0, 5, 1)) // (0, 5), and (1, 5), where it meets (1, 0) and (1, 1)
	w.ask(7, false, at(0, 0))
	w.advance(at(9, 9))
	for i := range 7 {
		if _, did := w.stepOnly(); !did || w.f.Todo() != 6-i {
			t.Fatalf("Step %d: %v, Todo %d", i, did, w.f.Todo())
		}
		w.hold("Step")
	}
	w.none()
}

func TestToDoWhereNoChangeCame(t *testing.T) { // P23.2: times of which none is LessEq to the other meet where both are
	w := watch(t, "meet", api.GroupCount, 1, 0, 2)
	w.accept(up(r(1, 5), 2, 0, 1), up(r(1, 6), 0, 2, 1), up(r(1, 7), 1, 1, 1))
	w.ask(6, false, at(0, 2), at(1, 1), at(2, 0))
	w.advance(at(3, 3))
	w.step(up(r(1, 1), 0, 2, 1))
	w.step(up(r(1, 1), 1, 1, 1))
	w.step(up(r(1, 1), 1, 2, -2), up(r(1, 2), 1, 2, 1))
	w.step(up(r(1, 1), 2, 0, 1))
	w.step(up(r(1, 1), 2, 1, -2), up(r(1, 2), 2, 1, 1))
	w.step(up(r(1, 1), 2, 2, 1), up(r(1, 2), 2, 2, -2), up(r(1, 3), 2, 2, 1))
	w.none()
	for _, k := range []struct{ first, second, want api.Time }{
		{at(1, 0), at(0, 1), at(1, 1)},
		{at(3, 2), at(2, 3), at(3, 3)},
		{at(api.MaxTime, 0), at(0, api.MaxTime), at(api.MaxTime, api.MaxTime)},
	} {
		w := watch(t, fmt.Sprint(k), api.GroupCount, 0, 0, 0)
		w.accept(up(nil, k.first.Epoch, k.first.Round, 1), up(nil, k.second.Epoch, k.second.Round, 1))
		w.ask(3, false, k.second, k.first)
		w.advance()
		w.step(api.Up{Row: r(1), Time: k.second, Diff: 1})
		w.step(api.Up{Row: r(1), Time: k.first, Diff: 1})
		w.step(api.Up{Row: r(1), Time: k.want, Diff: -2}, api.Up{Row: r(2), Time: k.want, Diff: 1})
		w.none()
	}
}

func TestDiffs(t *testing.T) { // P23.2, P23.3: of 0, below 0, and such that come to 0 together, ahead of their Step and behind it
	w := watch(t, "diffs", api.GroupCount, 1, 0, 1)
	w.accept(up(r(1), 0, 0, 0))
	w.ask(1, false, at(0, 0)) // it is to do, though nothing changes
	if w.f.Side(0).Total() != 1 {
		t.Fatalf("Total %d", w.f.Side(0).Total())
	}
	w.advance(at(0, 1))
	w.step()
	w.accept(up(r(1), 0, 1, -3))
	w.advance(at(0, 2))
	w.step(up(r(1, -3), 0, 1, 1))
	w.accept(up(r(1), 0, 2, 5), up(r(1), 0, 2, -5)) // ahead of their Step
	w.ask(1, false, at(0, 2))
	w.advance(at(0, 3))
	w.step()
	w.accept(up(r(1), 0, 3, 3)) // behind the Step of -3
	w.advance(at(0, 4))
	w.step(up(r(1, -3), 0, 3, -1))
	w.accept(up(r(1), 0, 4, 1), up(r(1), 0, 5, -1))
	w.advance(at(0, 6))
	w.step(up(r(1, 1), 0, 4, 1))
	w.step(up(r(1, 1), 0, 5, -1))
	w.none()
	w.work(1000)
	if w.f.Side(0).Batches()[0].Len() != 0 || w.f.Side(1).Batches()[0].Len() != 0 {
		t.Fatal("what comes to nothing is kept")
	}
	w.accept(up(r(1), 0, 6, 2))
	w.ask(1, false, at(0, 6))
	w.advance(at(1, 6))
	w.step(up(r(1, 2), 0, 6, 1))
	for kind := range api.Groups { // rows that are there less than 0 times
		w := watch(t, fmt.Sprint("below 0, kind ", kind), kind, 0, 1, 2)
		w.accept(up(r(4, 6), 0, 0, -2), up(r(4, 5), 1, 0, 1), up(r(4, 6), 2, 0, 3))
		w.advance()
		w.all()
	}
}

func TestStepThatChangesNothing(t *testing.T) { // P23.3: did is true, and nothing is told
	w := watch(t, "nothing", api.GroupMin, 1, 0, 2)
	w.accept(up(r(1, 5), 0, 0, 1), up(r(1, 6), 1, 0, 1), up(r(1, 5), 2, 0, 1), up(r(1, 6), 3, 0, -1), up(r(2, 2), 3, 0, -1))
	w.advance(at(9, 9))
	w.step(up(r(1, 5), 0, 0, 1))
	total := w.f.Side(1).Total()
	w.step()
	w.step()
	w.step()
	w.step()
	w.none()
	if w.f.Side(1).Total() != total || total != 1 {
		t.Fatalf("Total %d, it was %d", w.f.Side(1).Total(), total)
	}
}

func TestOrderOfSteps(t *testing.T) { // P23.3: by the time first, then by the key, however they came
	keys := []api.Row{r(low), r(-1), r(0), r(7), r(""), r("a"), r("ab"), r("b")}
	list := times(at(0, 0), at(0, 1), at(0, 9), at(1, 0), at(1, 5), at(2, 2), at(7, 0))
	for turn := range 5 {
		w := watch(t, fmt.Sprint("turn ", turn), api.GroupDistinct, 0, 0, 1)
		for i := range len(keys) * len(list) {
			i = (i*[]int{1, 55, 13, 29, 45}[turn] + turn) % (len(keys) * len(list))
			key, time := keys[i%len(keys)], list[i/len(keys)]
			w.accept(api.Up{Row: key, Time: time, Diff: 1})
		}
		w.advance()
		for i, time := range meetingsOfAll(list) {
			for _, key := range keys {
				if i > 0 { // each row is there from the first time on
					w.step()
					continue
				}
				w.step(api.Up{Row: key, Time: time, Diff: 1})
			}
		}
		w.none()
	}
	w := watch(t, "two keys at one time, one key at two", api.GroupCount, 1, 0, 1)
	w.accept(up(r("b"), 0, 1, 1), up(r("a"), 1, 0, 1), up(r("a"), 0, 1, 1), up(r("c"), 0, 0, 1))
	w.advance(at(2, 0))
	w.step(up(r("c", 1), 0, 0, 1))
	w.step(up(r("a", 1), 0, 1, 1))
	w.step(up(r("b", 1), 0, 1, 1))
	w.step(up(r("a", 1), 1, 0, 1))
	w.step(up(r("a", 1), 1, 1, -2), up(r("a", 2), 1, 1, 1))
	w.none()
}

// meetingsOfAll are the times at which each two of some meet, in order.
func meetingsOfAll(l []api.Time) []api.Time {
	var all []api.Time
	for _, t := range l {
		var rest []api.Up
		for _, u := range l {
			rest = append(rest, api.Up{Time: u})
		}
		all = append(all, meetings(t, rest)...)
	}
	slices.SortFunc(all, moment.Order)
	return slices.Compact(all)
}

func TestOrderOfWhatIsTold(t *testing.T) { // P23.3: of one Step, by rows; what is taken back and what comes stand among one another
	w := watch(t, "order", api.GroupTop, 0, 4, 2)
	w.accept(up(r("b", 1), 0, 0, 1), up(r(9, 9), 0, 0, 1), up(r("a", 2), 0, 0, 1), up(r("a", 1), 0, 0, 1))
	w.advance(at(1, 0))
	w.step(up(r(9, 9), 0, 0, 1), up(r("a", 1), 0, 0, 1), up(r("a", 2), 0, 0, 1), up(r("b", 1), 0, 0, 1))
	w.accept(up(r("a", 0), 1, 0, 2), up(r("a", 1), 1, 0, -1), up(r("c", 0), 1, 0, 5), up(r(0, 0), 1, 0, 1))
	w.advance(at(2, 0))
	w.step(up(r(0, 0), 1, 0, 1), up(r("a", 0), 1, 0, 2), up(r("a", 1), 1, 0, -1), up(r("a", 2), 1, 0, -1), up(r("b", 1), 1, 0, -1))
	w.none()
}

package view_test

import (
	"slices"
	"testing"

	"runnel/api"
	"runnel/change"
	"runnel/front"
	"runnel/spine"
	"runnel/view"
	"runnel/zset"
)

// watched is a view, and beside it what the chapter says of it: the notes that were applied, and for each out a spine that gets the same calls.
type watched struct {
	t         *testing.T
	v         *view.View
	outs, key int
	log       []api.Note
	twins     []*spine.Spine
	since     []api.Time
	great     bool // sums may be too great: what there is hangs then on how a spine adds it, and whether it has broken
}

func begun(t *testing.T, outs, key int) *watched {
	t.Helper()
	v, e := view.New(outs, key)
	if v == nil || e != api.OK {
		t.Fatalf("New(%d, %d): %v, %d", outs, key, v != nil, int(e))
	}
	w := &watched{t: t, v: v, outs: outs, key: key, since: times(at(0, 0))}
	for range outs {
		s, e := spine.New(key)
		if e != api.OK {
			t.Fatalf("spine.New(%d): %d", key, int(e))
		}
		w.twins = append(w.twins, s)
	}
	return w
}

// greatOne is a view whose sums may be too great.
func greatOne(t *testing.T, outs, key int) *watched {
	t.Helper()
	w := begun(t, outs, key)
	w.great = true
	return w
}

// fault is why a note may not come behind those that were applied, whatever the spine says of it.
func (w *watched) fault(n api.Note) api.Errno {
	if e, _ := change.Check(w.outs, append(slices.Clip(w.log), n)); e != api.OK {
		return e
	}
	if n.IsUp && len(n.Up.Row) < w.key {
		return api.ErrRange
	}
	return api.OK
}

// apply applies notes, one by one, and tells what the last one was answered.
func (w *watched) apply(l ...api.Note) (told api.Errno) {
	w.t.Helper()
	for _, n := range l {
		want := w.fault(n)
		if want == api.OK && n.IsUp {
			want = w.twins[n.Out].Insert([]api.Up{n.Up})
		}
		told = w.v.Apply(n)
		if told != want {
			w.t.Fatalf("Apply(%s) behind %s = %d, want %d", brief(n), brief(w.log), int(told), int(want))
		}
		if told == api.OK {
			w.log = append(w.log, n)
		}
	}
	return told
}

// good applies notes that must be taken.
func (w *watched) good(l ...api.Note) {
	w.t.Helper()
	for _, n := range l {
		if e := w.apply(n); e != api.OK {
			w.t.Fatalf("Apply(%s) behind %s = %d", brief(n), brief(w.log), int(e))
		}
	}
}

// refused applies a note that must not be taken, and holds that nothing is told otherwise then.
func (w *watched) refused(name string, n api.Note, want api.Errno, when ...api.Time) {
	w.t.Helper()
	if e := w.apply(n); e != want {
		w.t.Errorf("%s: Apply(%s) = %d, want %d", name, brief(n), int(e), int(want))
	}
	w.hold(when...)
}

func (w *watched) forget(f ...api.Time) api.Errno {
	w.t.Helper()
	want := front.Check(f)
	if want == api.OK && !front.LessEq(w.since, f) {
		want = api.ErrTime
	}
	if e := w.v.Forget(f); e != want {
		w.t.Fatalf("Forget(%s) where %s is forgotten = %d, want %d", brief(f), brief(w.since), int(e), int(want))
	}
	if want != api.OK {
		return want
	}
	w.since = slices.Clone(f)
	for _, s := range w.twins {
		if e := s.Advance(f); e != api.OK {
			w.t.Fatalf("the spine beside it: Advance(%s) = %d", brief(f), int(e))
		}
	}
	return api.OK
}

// work: the spines are worked in order, each with what the one ahead of it left, up to the first one that has broken.
func (w *watched) work(fuel int) (left int, e api.Errno) {
	w.t.Helper()
	want, fault := fuel, api.OK
	for _, s := range w.twins {
		if want, fault = s.Work(want); fault != api.OK {
			break
		}
	}
	left, e = w.v.Work(fuel)
	if left != want || e != fault {
		w.t.Fatalf("Work(%d) behind %s = %d, %d, want %d, %d", fuel, brief(w.log), left, int(e), want, int(fault))
	}
	return left, e
}

// askedAt is what is told of an out at a time.
func (w *watched) askedAt(out int, t api.Time) ([]api.Count, api.Errno) {
	told, e := change.At(w.outs, out, w.log, t)
	switch {
	case e != api.OK && e != api.ErrOver:
		return nil, e
	case !isAhead(w.since, t):
		return nil, api.ErrCompacted
	case w.great:
		return w.twins[out].At(t)
	}
	return told, e
}

// askedGet is what is told of the rows with a key.
func (w *watched) askedGet(out int, key api.Row, t api.Time) ([]api.Count, api.Errno) {
	if _, e := w.askedAt(out, t); e != api.OK && e != api.ErrOver {
		return nil, e
	}
	if len(key) != w.key {
		return nil, api.ErrArg
	}
	var ups []api.Up
	for _, n := range w.log {
		if n.IsUp && n.Out == out && sameRow(n.Up.Row[:w.key], key) {
			ups = append(ups, n.Up)
		}
	}
	if w.great {
		ups = w.twins[out].Run(key)
	}
	return zset.At(ups, t)
}

// askedBetween is what has changed.
func (w *watched) askedBetween(out int, s, t api.Time) ([]api.Count, api.Errno) {
	was, e := w.askedAt(out, s)
	if e != api.OK {
		return nil, e
	}
	is, e := w.askedAt(out, t)
	if e != api.OK {
		return nil, e
	}
	return zset.Less(is, was)
}

// keys are those that rows of an out have, each once, one that none has, and such as may be no key.
func (w *watched) keys(out int) []api.Row {
	l := []api.Row{many(w.key+1, api.Val{})}
	add := func(key api.Row) {
		if !slices.ContainsFunc(l, func(k api.Row) bool { return sameRow(k, key) }) {
			l = append(l, key)
		}
	}
	add(many(w.key, api.Val{Kind: 1, Str: "none"}))
	add(many(w.key, api.Val{Kind: 7}))
	add(many(max(w.key-1, 0), api.Val{}))
	for _, n := range w.log {
		if n.IsUp && n.Out == out {
			add(n.Up.Row[:w.key])
		}
	}
	return l
}

func (w *watched) holdLen() {
	w.t.Helper()
	want := 0
	for _, s := range w.twins {
		want += len(s.Ups())
	}
	if got := w.v.Len(); got != want {
		w.t.Errorf("Len behind %s = %d, want %d", brief(w.log), got, want)
	}
}

func (w *watched) holdFront(out int) {
	w.t.Helper()
	want, fault := change.Front(w.outs, out, w.log)
	if f, e := w.v.Front(out); e != fault || !slices.Equal(f, want) {
		w.t.Errorf("Front(%d) behind %s = %s, %d, want %s, %d", out, brief(w.log), brief(f), int(e), brief(want), int(fault))
	}
}

func (w *watched) holdAt(out int, t api.Time) api.Errno {
	w.t.Helper()
	want, fault := w.askedAt(out, t)
	if c, e := w.v.At(out, t); e != fault || !sameCounts(c, want) {
		w.t.Errorf("At(%d, %v) behind %s = %s, %d, want %s, %d", out, t, brief(w.log), brief(c), int(e), brief(want), int(fault))
	}
	return fault
}

func (w *watched) holdGet(out int, key api.Row, t api.Time) api.Errno {
	w.t.Helper()
	want, fault := w.askedGet(out, key, t)
	if c, e := w.v.Get(out, key, t); e != fault || !sameCounts(c, want) {
		w.t.Errorf("Get(%d, %s, %v) behind %s = %s, %d, want %s, %d", out, brief(key), t, brief(w.log), brief(c), int(e), brief(want), int(fault))
	}
	return fault
}

func (w *watched) holdBetween(out int, s, t api.Time) api.Errno {
	w.t.Helper()
	want, fault := w.askedBetween(out, s, t)
	if c, e := w.v.Between(out, s, t); e != fault || !sameCounts(c, want) {
		w.t.Errorf("Between(%d, %v, %v) behind %s = %s, %d, want %s, %d", out, s, t, brief(w.log), brief(c), int(e), brief(want), int(fault))
	}
	return fault
}

// hold holds all that is told against what is asked, of outs that there are not, too; between each of these times and the one behind it, both ways.
func (w *watched) hold(when ...api.Time) {
	w.t.Helper()
	w.holdLen()
	for out := -1; out <= w.outs; out++ {
		w.holdFront(out)
		keys := w.keys(out)
		for i, t := range when {
			w.holdAt(out, t)
			for _, key := range keys {
				w.holdGet(out, key, t)
			}
			next := when[(i+1)%len(when)]
			w.holdBetween(out, t, next)
			w.holdBetween(out, next, t)
			w.holdBetween(out, t, t)
		}
	}
}

// told holds At against what is known by hand.
func (w *watched) told(out int, t api.Time, want []api.Count, fault api.Errno) {
	w.t.Helper()
	if c, e := w.v.At(out, t); e != fault || !sameCounts(c, want) {
		w.t.Errorf("At(%d, %v) = %s, %d, want %s, %d", out, t, brief(c), int(e), brief(want), int(fault))
	}
}

// got holds Get against what is known by hand.
func (w *watched) got(out int, key api.Row, t api.Time, want []api.Count, fault api.Errno) {
	w.t.Helper()
	if c, e := w.v.Get(out, key, t); e != fault || !sameCounts(c, want) {
		w.t.Errorf("Get(%d, %s, %v) = %s, %d, want %s, %d", out, brief(key), t, brief(c), int(e), brief(want), int(fault))
	}
}

// changed holds Between against what is known by hand.
func (w *watched) changed(out int, s, t api.Time, want []api.Count, fault api.Errno) {
	w.t.Helper()
	if c, e := w.v.Between(out, s, t); e != fault || !sameCounts(c, want) {
		w.t.Errorf("Between(%d, %v, %v) = %s, %d, want %s, %d", out, s, t, brief(c), int(e), brief(want), int(fault))
	}
}

// complete holds Front against what is known by hand.
func (w *watched) complete(out int, want ...api.Time) {
	w.t.Helper()
	if f, e := w.v.Front(out); e != api.OK || !slices.Equal(f, want) {
		w.t.Errorf("Front(%d) = %s, %d, want %s", out, brief(f), int(e), brief(want))
	}
}

// length holds Len against what is known by hand.
func (w *watched) length(want int) {
	w.t.Helper()
	if got := w.v.Len(); got != want {
		w.t.Errorf("Len = %d, want %d", got, want)
	}
}

// grid are times near the beginning, and some that are none, or the last.
func grid(most int) []api.Time {
	l := times(at(-1, 0), at(0, -1), at(last, last), at(last+1, 0), at(0, last), at(last, 0), at(low, high))
	for epoch := range most {
		for round := range most {
			l = append(l, at(epoch, round))
		}
	}
	return l
}

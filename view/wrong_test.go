package view_test

import (
	"fmt"
	"slices"
	"strings"
	"testing"

	"runnel/api"
	"runnel/view"
)

func TestNewRefused(t *testing.T) { // P32.1: so many outs that may not be, and spine.New's error of key
	for _, outs := range []int{low, low + 1, -1 << 32, -8, -1, 0, 9, 10, 16, 256, 257, 1 << 32, 1<<32 + 1, high - 1, high} {
		for _, key := range []int{low, -1, 0, 1, 16, 17, high} {
			if v, e := view.New(outs, key); v != nil || e != api.ErrArg {
				t.Errorf("New(%d, %d): %v, %d", outs, key, v != nil, int(e))
			}
		}
	}
	for outs := 1; outs <= 8; outs++ {
		for _, key := range []int{low, -1 << 32, -2, -1, 17, 18, 255, 256, 1 << 32, high} {
			if v, e := view.New(outs, key); v != nil || e != api.ErrArg {
				t.Errorf("New(%d, %d): %v, %d", outs, key, v != nil, int(e))
			}
		}
		for key := range 17 {
			if v, e := view.New(outs, key); v == nil || e != api.OK {
				t.Errorf("New(%d, %d): %v, %d", outs, key, v != nil, int(e))
			}
		}
	}
}

// sampled is a view to which sample was applied.
func sampled(t *testing.T) *watched {
	t.Helper()
	w := begun(t, sampleOuts, 1)
	w.good(sample()...)
	return w
}

type noteFault struct {
	note api.Note
	want api.Errno
}

// wrongNotes are notes that may not come behind sample, and why.
func wrongNotes() map[string]noteFault {
	l := map[string]noteFault{
		"a change ahead of the frontier":         {came(0, r(1), 2, 9, 1), api.ErrTime},
		"one of the time (0, 0)":                 {came(0, r(1), 0, 0, 1), api.ErrTime},
		"one of nothing, ahead of it":            {came(0, r(1), 2, 1, 0), api.ErrTime},
		"one between two times of a frontier":    {came(2, r("b"), 2, 3, 1), api.ErrTime},
		"one of the last round, ahead":           {came(0, r(1), 2, last, 1), api.ErrTime},
		"a change behind an empty frontier":      {came(1, r(1), 9, 9, 1), api.ErrTime},
		"the last one behind an empty frontier":  {came(1, r(1), last, last, 1), api.ErrTime},
		"a frontier that goes back":              {upTo(0, at(2, 9)), api.ErrTime},
		"one time of which goes back":            {upTo(2, at(0, 3), at(3, 0)), api.ErrTime},
		"another time of which goes back":        {upTo(2, at(0, 4), at(2, 3), at(3, 0)), api.ErrTime},
		"the frontier of the beginning":          {upTo(0, at(0, 0)), api.ErrTime},
		"a frontier aside":                       {upTo(0, at(2, last)), api.ErrTime},
		"a frontier behind an empty one":         {upTo(1, at(last, last)), api.ErrTime},
		"a row of no values":                     {came(0, nil, 5, 5, 1), api.ErrRange},
		"an empty row":                           {came(2, api.Row{}, 5, 5, 1), api.ErrRange},
		"a row of no values, of Diff 0":          {came(3, nil, 0, 0, 0), api.ErrRange},
		"a wrong row ahead of a wrong time":      {came(0, r(api.Val{Kind: 2}), -1, 0, 1), api.ErrKind},
		"a wrong row ahead of an early time":     {came(0, many(17, api.Val{}), 0, 0, 1), api.ErrMany},
		"a wrong row behind an empty frontier":   {came(1, r(strings.Repeat("x", 4097)), 1, 1, 1), api.ErrLong},
		"a wrong time ahead of too few values":   {came(0, nil, -1, 0, 1), api.ErrTime},
		"an early time ahead of too few values":  {came(0, nil, 2, 9, 1), api.ErrTime},
		"too few values behind no frontier":      {came(1, nil, 1, 1, 1), api.ErrTime},
		"many times ahead of those that are not": {upTo(0, many(1025, at(-1, 0))...), api.ErrMany},
		"no time ahead of one that goes back":    {upTo(0, at(0, 9), at(1, -1)), api.ErrTime},
		"no order ahead of one that goes back":   {upTo(0, at(1, 0), at(0, 1)), api.ErrForm},
	}
	for _, out := range noOuts(sampleOuts) {
		l[fmt.Sprint("a change of the out ", out)] = noteFault{came(out, r(1), 50, 50, 1), api.ErrRange}
		l[fmt.Sprint("a row of no values, of the out ", out)] = noteFault{came(out, nil, 50, 50, 1), api.ErrRange}
		l[fmt.Sprint("a frontier of the out ", out)] = noteFault{upTo(out, at(50, 50)), api.ErrRange}
		l[fmt.Sprint("no frontier, of the out ", out)] = noteFault{upTo(out), api.ErrRange}
		l[fmt.Sprint("what may not be, of the out ", out)] = noteFault{api.Note{Out: out, IsUp: true, Up: oddUp()}, api.ErrRange}
		l[fmt.Sprint("a frontier that is none, of the out ", out)] = noteFault{upTo(out, rising(1025)...), api.ErrRange}
	}
	for name, wrong := range wrongRows() {
		l["a row: "+name] = noteFault{came(2, wrong.row, 50, 50, 1), wrong.want}
	}
	for name, wrong := range wrongFronts() {
		l["a frontier: "+name] = noteFault{upTo(2, wrong.front...), wrong.want}
		l["behind an empty frontier: "+name] = noteFault{upTo(1, wrong.front...), wrong.want}
	}
	for _, when := range noTimes() {
		l[fmt.Sprint("a change at no time: ", when)] = noteFault{came(3, r(1), when.Epoch, when.Round, 1), api.ErrTime}
	}
	return l
}

func TestWrongNotes(t *testing.T) { // P32.1: what change.Check says of them, then ErrRange of too few values; nothing has changed
	w := sampled(t)
	for name, wrong := range wrongNotes() {
		w.refused(name, wrong.note, wrong.want, at(0, 0), at(2, 2), at(3, 0))
		w.refused(name+", odd", odd(wrong.note), wrong.want)
	}
	if len(w.log) != len(sample()) {
		t.Errorf("%d notes were applied", len(w.log))
	}
	w.hold(grid(11)...)
	w.forget(at(2, 2))
	w.work(1000)
	for name, wrong := range wrongNotes() {
		w.refused(name, wrong.note, wrong.want, at(2, 2))
	}
}

func TestWrongNotesAtFirst(t *testing.T) { // P32.1: of a view to which nothing was applied
	for _, key := range []int{0, 1, 16} {
		w := begun(t, 1, key)
		for name, wrong := range wrongRows() {
			w.refused(name, came(0, wrong.row, 0, 0, 1), wrong.want)
			w.refused(name+" at no time", came(0, wrong.row, -1, 0, 1), wrong.want)
			w.refused(name+" of no out", came(1, wrong.row, 0, 0, 1), api.ErrRange)
		}
		for name, wrong := range wrongFronts() {
			w.refused(name, upTo(0, wrong.front...), wrong.want)
			w.refused(name+" of no out", upTo(-1, wrong.front...), api.ErrRange)
		}
		for _, when := range noTimes() {
			w.refused("no time", came(0, many(key, api.Val{}), when.Epoch, when.Round, 1), api.ErrTime)
		}
		w.length(0)
		w.complete(0, at(0, 0))
		w.hold(grid(3)...)
	}
}

func TestOutsThatThereAreNot(t *testing.T) { // P32.2: ErrRange, ahead of all else
	for outs := 1; outs <= 8; outs++ {
		w := begun(t, outs, 1)
		w.good(came(0, r(1), 0, 0, 1), upTo(0, at(3, 0)))
		w.forget(at(1, 0))
		for _, out := range noOuts(outs) {
			if out >= 0 && out < outs {
				continue
			}
			if f, e := w.v.Front(out); len(f) != 0 || e != api.ErrRange {
				t.Errorf("Front(%d) of %d: %v, %d", out, outs, f, int(e))
			}
			for _, when := range grid(4) {
				w.told(out, when, nil, api.ErrRange)
				w.got(out, r(1), when, nil, api.ErrRange)
				w.got(out, nil, when, nil, api.ErrRange)
				w.changed(out, when, at(2, 0), nil, api.ErrRange)
				w.changed(out, at(2, 0), when, nil, api.ErrRange)
			}
		}
	}
}

func TestTimesThatAreOpen(t *testing.T) { // P32.2: none by moment.Check, or in advance of the out's frontier; ahead of ErrCompacted and of ErrArg
	w := sampled(t)
	w.good(upTo(3, rising(1024)...))
	w.forget(at(2, 3))
	for out := range sampleOuts {
		for _, when := range noTimes() {
			w.told(out, when, nil, api.ErrOpen)
			w.got(out, r(7), when, nil, api.ErrOpen)
			w.got(out, nil, when, nil, api.ErrOpen)
			w.changed(out, when, when, nil, api.ErrOpen)
		}
	}
	for _, when := range rising(1024) {
		w.told(3, when, nil, api.ErrOpen)
		w.got(3, r(1, 2), when, nil, api.ErrOpen)
		if when.Round > 3 && when.Epoch >= 2 {
			w.told(3, at(when.Epoch, when.Round-1), nil, api.OK)
		}
	}
	w.told(2, at(0, 4), nil, api.ErrOpen)
	w.told(2, at(0, 3), nil, api.ErrCompacted)
	w.told(2, at(2, 3), nil, api.OK)
	w.told(0, at(3, 0), nil, api.ErrOpen)
	w.hold(grid(7)...)
}

func TestTheErrorsOfBetween(t *testing.T) { // P32.2: that at s, then that at t
	w := greatOne(t, 1, 1)
	w.good(came(0, r(1), 0, 0, 1), came(0, r(1), 2, 0, high), came(0, r(1), 2, 0, -1), upTo(0, at(5, 0)))
	w.forget(at(1, 0))
	gone, open, none, fine, great := at(0, 7), at(5, 1), at(-1, 3), at(1, 1), at(2, 0)
	for s, first := range map[api.Time]api.Errno{gone: api.ErrCompacted, open: api.ErrOpen, none: api.ErrOpen, great: api.ErrOver, fine: api.OK} {
		for u, second := range map[api.Time]api.Errno{gone: api.ErrCompacted, open: api.ErrOpen, none: api.ErrOpen, great: api.ErrOver, fine: api.OK} {
			want := first
			if want == api.OK {
				want = second
			}
			w.changed(0, s, u, nil, want)
			w.holdBetween(0, s, u)
		}
	}
}

func TestWrongKeys(t *testing.T) { // P32.2: ErrArg of too few and too many values, behind At's errors; nothing else is asked of a key
	for _, key := range []int{0, 1, 2, 16} {
		w := begun(t, 1, key)
		w.good(came(0, many(key, api.Val{}), 0, 0, 1), upTo(0, at(3, 0)))
		w.forget(at(1, 0))
		for length := range 20 {
			wrong := many(length, api.Val{})
			want := api.ErrArg
			if length == key {
				want = api.OK
			}
			if got := w.holdGet(0, wrong, at(2, 0)); got != want {
				t.Errorf("a key of %d values where it has %d: %d", length, key, int(got))
			}
			w.got(0, wrong, at(0, 5), nil, api.ErrCompacted)
			w.got(0, wrong, at(3, 0), nil, api.ErrOpen)
			w.got(1, wrong, at(2, 0), nil, api.ErrRange)
		}
		for name, wrong := range wrongRows() {
			want := api.ErrArg
			if len(wrong.row) == key {
				want = api.OK
			}
			if c, e := w.v.Get(0, wrong.row, at(2, 0)); len(c) != 0 || e != want {
				t.Errorf("%s: %s, %d, want %d", name, brief(c), int(e), int(want))
			}
		}
	}
}

func TestForgetRefused(t *testing.T) { // P32.3: front.Check's error, then ErrTime of what goes back; nothing has changed
	w := sampled(t)
	w.forget(at(0, 2), at(1, 1))
	w.work(3)
	for name, wrong := range wrongFronts() {
		if e := w.forget(wrong.front...); e != wrong.want {
			t.Errorf("%s: %d, want %d", name, int(e), int(wrong.want))
		}
		w.hold(at(0, 1), at(0, 2), at(1, 1), at(2, 2))
	}
	for _, back := range [][]api.Time{{at(0, 0)}, {at(0, 1)}, {at(1, 0)}, {at(0, 2), at(1, 0)}, {at(0, 1), at(1, 0)}, {at(0, 2), at(9, 0)}, {at(0, 1), at(9, 0)}} {
		want := api.ErrTime
		if e := w.forget(back...); e != want {
			t.Errorf("%v: %d, want %d", back, int(e), int(want))
		}
		w.hold(grid(4)...)
	}
	w.forget()
	for name, wrong := range wrongFronts() {
		if e := w.forget(wrong.front...); e != wrong.want {
			t.Errorf("%s, behind the empty one: %d, want %d", name, int(e), int(wrong.want))
		}
	}
}

func TestSumsThatAreTooGreat(t *testing.T) { // P32.2: in At, in Between; Get tells what its own key has
	w := greatOne(t, 2, 1)
	w.good(came(0, r(1, "a"), 0, 0, high), came(0, r(2, "b"), 0, 0, 5), came(0, r(1, "a"), 1, 0, 1), came(0, r(3), 1, 0, -7), upTo(0, at(3, 0)))
	w.told(0, at(0, 0), counts(count(r(1, "a"), high), count(r(2, "b"), 5)), api.OK)
	w.told(0, at(1, 0), nil, api.ErrOver)
	w.got(0, r(1), at(0, 0), counts(count(r(1, "a"), high)), api.OK)
	w.got(0, r(1), at(1, 0), nil, api.ErrOver)
	w.got(0, r(2), at(1, 0), counts(count(r(2, "b"), 5)), api.OK)
	w.got(0, r(3), at(1, 0), counts(count(r(3), -7)), api.OK)
	w.got(0, r(4), at(1, 0), nil, api.OK)
	w.got(0, nil, at(1, 0), nil, api.ErrArg)
	w.changed(0, at(0, 0), at(1, 0), nil, api.ErrOver)
	w.changed(0, at(1, 0), at(0, 0), nil, api.ErrOver)
	w.changed(0, at(0, 0), at(0, 9), nil, api.OK)
	w.hold(grid(4)...)
	// Each at its time fits, and what has changed does not.
	for _, diffs := range [][2]int{{-1, high}, {high, -1}, {low, 0}, {0, low}, {low, high}, {1, low}, {low, 1}} {
		w := greatOne(t, 1, 0)
		w.good(came(0, r("x"), 0, 0, diffs[0]), came(0, r("x"), 5, 0, diffs[1]), came(0, r("y"), 0, 0, 1), upTo(0))
		w.holdBetween(0, at(0, 0), at(5, 0))
		w.holdBetween(0, at(5, 0), at(0, 0))
		w.hold(grid(7)...)
	}
	w = begun(t, 1, 0)
	w.good(came(0, r("x"), 0, 1, -2), came(0, r("x"), 1, 0, high), upTo(0))
	w.told(0, at(0, 1), counts(count(r("x"), -2)), api.OK)
	w.told(0, at(1, 0), counts(count(r("x"), high)), api.OK)
	w.changed(0, at(0, 1), at(1, 0), nil, api.ErrOver)
	w.changed(0, at(1, 0), at(0, 1), nil, api.ErrOver) // -2 less the greatest is below the least
	w.changed(0, at(0, 1), at(0, 1), nil, api.OK)
}

func TestGreatestAndLeastDiffs(t *testing.T) { // P32.2: each is itself allowed
	w := begun(t, 1, 1)
	w.good(came(0, r(1), 0, 0, high), came(0, r(2), 0, 0, low), came(0, r(1), 1, 0, low), came(0, r(2), 1, 0, high), upTo(0))
	w.told(0, at(0, 0), counts(count(r(1), high), count(r(2), low)), api.OK)
	w.told(0, at(1, 0), counts(count(r(1), -1), count(r(2), -1)), api.OK)
	w.changed(0, at(0, 5), at(1, 0), counts(count(r(1), low), count(r(2), high)), api.OK)
	w.changed(0, at(1, 0), at(0, 5), nil, api.ErrOver)
	w.changed(0, at(0, 5), at(0, 7), nil, api.OK)
	w.hold(grid(3)...)
}

// broken is a view of two outs, of which the second one has broken in Apply, with the changes that it has then.
func broken(t *testing.T) *watched {
	t.Helper()
	w := greatOne(t, 2, 1)
	w.good(came(0, r(1), 0, 0, 1), came(0, r(1), 1, 0, 1), came(1, r(5), 0, 0, 2), upTo(0, at(4, 0)))
	for i := range 3 {
		if e := w.apply(came(1, r(1), 0, 0, high)); (e == api.OK) != (i < 2) {
			t.Fatalf("the greatest Diff for time %d: %d", i+1, int(e))
		}
	}
	return w
}

func TestApplyThatBreaks(t *testing.T) { // P32.1: spine.Insert's error, from then on; the other outs go on
	w := broken(t)
	w.length(2 + 4) // what broke the spine is there
	w.hold(grid(5)...)
	for range 2 {
		w.refused("a change behind it", came(1, r(9), 4, 4, 1), api.ErrOver, at(0, 0))
		w.refused("a change of Diff 0", came(1, r(9), 4, 4, 0), api.ErrOver, at(0, 0))
		w.refused("too few values", came(1, nil, 4, 4, 1), api.ErrRange, at(0, 0))
		w.refused("no row", came(1, r(api.Val{Kind: 3}), 3, 3, 1), api.ErrKind, at(0, 0))
		w.refused("no time", came(1, r(1), -3, 3, 1), api.ErrTime, at(0, 0))
		w.refused("no out", came(2, r(1), 3, 3, 1), api.ErrRange, at(0, 0))
		w.refused("no frontier", upTo(1, at(5, 5), at(4, 4)), api.ErrForm, at(0, 0))
		w.good(came(0, r(2), 4, 0, 1), upTo(1, at(4, 0)))
		w.hold(grid(5)...)
	}
	w.refused("ahead of the frontier", came(1, r(1), 3, 9, 1), api.ErrTime, at(0, 0))
	w.complete(1, at(4, 0))
	w.told(1, at(0, 0), nil, api.ErrOver)
	w.got(1, r(1), at(0, 0), nil, api.ErrOver)
	w.got(1, r(5), at(0, 0), counts(count(r(5), 2)), api.OK)
	w.got(1, r(9), at(0, 0), nil, api.OK)
	w.told(0, at(1, 0), counts(count(r(1), 2)), api.OK)
	w.changed(0, at(0, 0), at(1, 0), counts(count(r(1), 1)), api.OK)
	w.changed(1, at(0, 0), at(1, 0), nil, api.ErrOver)
	if e := w.forget(at(1, 0)); e != api.OK {
		t.Error(e)
	}
	w.told(1, at(0, 0), nil, api.ErrCompacted)
	w.got(1, r(5), at(1, 0), counts(count(r(5), 2)), api.OK)
	w.hold(grid(5)...)
}

func TestWorkThatBreaks(t *testing.T) { // P32.3: the first error, and from then on; what comes ahead of it is done
	for _, first := range []int{0, 1, 2} {
		w := greatOne(t, 3, 1)
		w.good(came(first, r(1), 0, 0, high), came(first, r(1), 0, 0, 1))
		for out := range 3 {
			w.good(came(out, r(7, out), 0, 0, 1))
		}
		for out := range 3 {
			if out != first {
				w.good(came(out, r(7, out), 0, 0, 1))
			}
		}
		w.good(upTo(first, at(3, 0)))
		w.length(7)
		if left, e := w.work(1000); left != 0 || e != api.ErrOver {
			t.Fatalf("Work = %d, %d", left, int(e))
		}
		w.length(7 - first) // each out ahead has one change for two
		w.hold(grid(4)...)
		for _, fuel := range []int{0, -1, 1, 5, high} {
			if left, e := w.work(fuel); left != 0 || e != api.ErrOver {
				t.Errorf("Work(%d) = %d, %d", fuel, left, int(e))
			}
			w.hold(at(0, 0), at(2, 0))
		}
		w.refused("a change behind it", came(first, r(9), 3, 3, 1), api.ErrOver, at(0, 0))
		w.good(came((first+1)%3, r(9), 3, 3, 1), upTo(first))
		w.got(first, r(7), at(0, 0), counts(count(r(7, first), 1)), api.OK)
		w.got(first, r(1), at(0, 0), nil, api.ErrOver)
		w.told(first, at(0, 0), nil, api.ErrOver)
		w.hold(grid(4)...)
	}
}

func TestWorkThatBreaksBehindForget(t *testing.T) { // P32.3: two times that come to be one
	w := greatOne(t, 1, 1)
	w.good(came(0, r(1), 0, 1, high), came(0, r(1), 1, 0, high), came(0, r(2), 0, 0, 3), upTo(0, at(3, 0)))
	w.told(0, at(0, 1), counts(count(r(1), high), count(r(2), 3)), api.OK)
	w.told(0, at(1, 0), counts(count(r(1), high), count(r(2), 3)), api.OK)
	w.told(0, at(1, 1), nil, api.ErrOver)
	w.forget(at(2, 2))
	if _, e := w.work(1000); e != api.ErrOver {
		t.Errorf("Work = %d", int(e))
	}
	w.got(0, r(2), at(2, 2), counts(count(r(2), 3)), api.OK)
	w.hold(grid(4)...)
}

func TestNilView(t *testing.T) { // P32.1: ErrNil, zeros, nothing, ahead of all else
	var v *view.View
	for _, n := range append(sample(), upTo(-1), came(9, nil, -1, 0, 0), api.Note{}, api.Note{IsUp: true, Up: oddUp()}) {
		if e := v.Apply(n); e != api.ErrNil {
			t.Errorf("Apply: %d", int(e))
		}
	}
	for _, out := range []int{low, -1, 0, 1, 8, high} {
		if f, e := v.Front(out); f != nil || e != api.ErrNil {
			t.Errorf("Front: %v, %d", f, int(e))
		}
		for _, when := range grid(2) {
			if c, e := v.At(out, when); c != nil || e != api.ErrNil {
				t.Errorf("At: %v, %d", c, int(e))
			}
			for _, key := range []api.Row{nil, r(1), many(17, api.Val{})} {
				if c, e := v.Get(out, key, when); c != nil || e != api.ErrNil {
					t.Errorf("Get: %v, %d", c, int(e))
				}
			}
			if c, e := v.Between(out, when, at(0, 0)); c != nil || e != api.ErrNil {
				t.Errorf("Between: %v, %d", c, int(e))
			}
		}
	}
	for _, f := range [][]api.Time{nil, {at(0, 0)}, {at(-1, 0)}, rising(1025)} {
		if e := v.Forget(f); e != api.ErrNil {
			t.Errorf("Forget: %d", int(e))
		}
	}
	for _, fuel := range []int{low, -1, 0, 1, high} {
		if left, e := v.Work(fuel); left != 0 || e != api.ErrNil {
			t.Errorf("Work: %d, %d", left, int(e))
		}
	}
	if got := v.Len(); got != 0 {
		t.Errorf("Len: %d", got)
	}
}

func TestViewsThatNewDidNotMake(t *testing.T) { // the rule of ends: what they answer is open, but they answer
	v := new(view.View)
	for _, n := range slices.Concat(sample(), notes(upTo(-1), api.Note{IsUp: true, Up: oddUp()})) {
		v.Apply(n)
	}
	for _, out := range []int{low, -1, 0, 1, 8, high} {
		v.Front(out)
		v.At(out, at(0, 0))
		v.Get(out, nil, at(0, 0))
		v.Between(out, at(0, 0), at(1, 1))
	}
	v.Forget(nil)
	v.Work(5)
	v.Len()
}

func TestEveryArgument(t *testing.T) { // the rule of ends: every call ends, and none panics
	numbers := []int{low, low + 1, -1 << 40, -1, 0, 1, 7, 8, 15, 16, 1023, last - 1, last, last + 1, high - 1, high}
	w := greatOne(t, 8, 1)
	for _, a := range numbers {
		for _, b := range numbers {
			for _, n := range notes(came(a, r(a), b, b, a), came(7, r(b, a), a, b, b), upTo(a, at(b, a)), upTo(6, at(a, b), at(b, a))) {
				w.apply(n)
				w.apply(odd(n))
			}
			for _, out := range []int{a, 6, 7} {
				w.v.Front(out)
				w.v.At(out, at(a, b))
				w.v.Get(out, r(a), at(a, b))
				w.v.Get(out, r(a, b), at(b, b))
				w.v.Between(out, at(a, b), at(b, a))
			}
			w.v.Work(min(a, 0))
		}
	}
	w.hold(at(0, 0), at(1, 1), at(last, last))
	for _, a := range numbers {
		for _, b := range numbers {
			w.forget(at(a, b))
			w.forget(at(a, b), at(b, a))
		}
		w.work(a)
	}
	w.hold(at(0, 0), at(1, 1), at(last, last))
}

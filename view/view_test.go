package view_test

import (
	"slices"
	"strings"
	"testing"

	"runnel/api"
	"runnel/view"
)

// page are the notes of the page's example.
func page() []api.Note {
	return notes(came(0, r("a"), 0, 0, 1), came(0, r("b"), 1, 0, 1), upTo(0, at(2, 0)))
}

// sample are notes of four outs whose key is one value: one with changes and frontiers mixed, one to which nothing comes any more, one with a frontier of two times, one without a note.
func sample() []api.Note {
	return notes(
		came(0, r(7, "a"), 0, 0, 1),
		came(0, r(7, "b"), 0, 1, 2),
		came(2, r(7, "a"), 3, 1, -2),
		upTo(0, at(1, 0)),
		came(0, r(7, "a"), 1, 0, -1),
		came(0, r(8), 1, 2, 3),
		came(1, r("x"), 9, 9, 5),
		came(0, r(8), 2, 0, 0),
		upTo(2, at(0, 4), at(3, 0)),
		upTo(0, at(3, 0)),
		came(0, r(7, "c"), 3, 0, 9),
		upTo(1),
		came(2, r(7, "a"), 5, 5, 4),
	)
}

const sampleOuts = 4

func TestThePage(t *testing.T) { // P32.2: the page's example
	for key := range 2 {
		w := begun(t, 1, key)
		w.good(page()...)
		w.changed(0, at(0, 0), at(1, 0), counts(count(r("b"), 1)), api.OK)
		w.changed(0, at(1, 0), at(0, 0), counts(count(r("b"), -1)), api.OK)
		w.told(0, at(0, 0), counts(count(r("a"), 1)), api.OK)
		w.told(0, at(1, 0), counts(count(r("a"), 1), count(r("b"), 1)), api.OK)
		w.told(0, at(2, 0), nil, api.ErrOpen)
		w.complete(0, at(2, 0))
		w.length(2)
		w.hold(grid(4)...)
	}
}

func TestSample(t *testing.T) { // P32.1 to P32.3: by hand
	w := begun(t, sampleOuts, 1)
	w.good(sample()...)
	w.complete(0, at(3, 0))
	w.complete(1)
	w.complete(2, at(0, 4), at(3, 0))
	w.complete(3, at(0, 0))
	w.told(0, at(0, 0), counts(count(r(7, "a"), 1)), api.OK)
	w.told(0, at(0, 5), counts(count(r(7, "a"), 1), count(r(7, "b"), 2)), api.OK)
	w.told(0, at(1, 0), nil, api.OK)
	w.told(0, at(2, 2), counts(count(r(7, "b"), 2), count(r(8), 3)), api.OK)
	w.told(0, at(3, 0), nil, api.ErrOpen)
	w.told(1, at(9, 8), nil, api.OK)
	w.told(1, at(last, last), counts(count(r("x"), 5)), api.OK)
	w.told(2, at(2, 3), nil, api.OK)
	w.told(2, at(3, 1), nil, api.ErrOpen)
	w.told(2, at(0, 4), nil, api.ErrOpen)
	w.told(3, at(0, 0), nil, api.ErrOpen)
	w.got(0, r(7), at(0, 5), counts(count(r(7, "a"), 1), count(r(7, "b"), 2)), api.OK)
	w.got(0, r(7), at(2, 2), counts(count(r(7, "b"), 2)), api.OK)
	w.got(0, r(8), at(2, 2), counts(count(r(8), 3)), api.OK)
	w.got(0, r(9), at(2, 2), nil, api.OK)
	w.got(0, r("7"), at(2, 2), nil, api.OK)
	w.got(1, r("x"), at(9, 9), counts(count(r("x"), 5)), api.OK)
	w.changed(0, at(0, 1), at(1, 2), counts(count(r(7, "a"), -1), count(r(8), 3)), api.OK)
	w.changed(0, at(0, 1), at(1, 0), counts(count(r(7, "a"), -1), count(r(7, "b"), -2)), api.OK)
	w.hold(grid(11)...)
	if e := w.forget(at(1, 1)); e != api.OK {
		t.Fatal(e)
	}
	w.told(0, at(1, 0), nil, api.ErrCompacted)
	w.told(0, at(1, 1), counts(count(r(7, "b"), 2)), api.OK)
	w.got(0, r(7), at(1, 1), counts(count(r(7, "b"), 2)), api.OK)
	w.changed(0, at(1, 1), at(2, 2), counts(count(r(8), 3)), api.OK)
	w.hold(grid(11)...)
	if left, e := w.work(1000); left == 0 || e != api.OK {
		t.Errorf("Work: %d, %d", left, int(e))
	}
	w.length(6) // of the out 0 (7 "b"), (7 "c") and (8), one of 1, two of 2
	w.hold(grid(11)...)
}

func TestNothingApplied(t *testing.T) { // P32.1 to P32.3: each out begins with the frontier of the time (0, 0), and all times are open
	for outs := 1; outs <= 8; outs++ {
		for _, key := range []int{0, 1, 2, 15, 16} {
			w := begun(t, outs, key)
			w.length(0)
			for out := range outs {
				w.complete(out, at(0, 0))
				for _, when := range grid(3) {
					w.told(out, when, nil, api.ErrOpen)
					w.got(out, many(key, api.Val{}), when, nil, api.ErrOpen)
					w.changed(out, when, when, nil, api.ErrOpen)
				}
			}
			for _, fuel := range []int{0, 1, 5, high} {
				if left, e := w.work(fuel); left != fuel || e != api.OK {
					t.Errorf("Work(%d) = %d, %d", fuel, left, int(e))
				}
			}
			w.hold(grid(3)...)
			if e := w.forget(at(4, 4)); e != api.OK {
				t.Error(e)
			}
			w.hold(grid(6)...)
		}
	}
}

func TestEachOutByItself(t *testing.T) { // P32.1, P32.2: of 1 to MaxOuts outs
	for outs := 1; outs <= 8; outs++ {
		w := begun(t, outs, 1)
		for out := range outs {
			w.good(came(out, r(out, "own"), out, 0, out+1), upTo(out, at(out+1, 0)), came(out, r(out, "own"), out+1, 0, -1))
		}
		for out := range outs {
			w.complete(out, at(out+1, 0))
			w.told(out, at(out, 5), counts(count(r(out, "own"), out+1)), api.OK)
			w.told(out, at(out+1, 0), nil, api.ErrOpen)
			w.got(out, r(out), at(out, 0), counts(count(r(out, "own"), out+1)), api.OK)
			w.got(out, r(out+1), at(out, 0), nil, api.OK)
		}
		w.length(2 * outs)
		w.hold(grid(10)...)
	}
}

func TestOneOutWithoutANote(t *testing.T) { // P32.2: beside one with many
	for _, silent := range []int{0, 1, 7} {
		w := begun(t, 8, 1)
		for i := range 100 {
			w.good(came((silent+1)%8, r(i%9, i), i/10, i%3, i%5-2))
		}
		w.good(upTo((silent+1)%8, at(6, 0)))
		w.complete(silent, at(0, 0))
		w.told(silent, at(0, 0), nil, api.ErrOpen)
		w.hold(grid(8)...)
		w.forget(at(3, 1))
		w.work(100)
		w.hold(grid(8)...)
		w.good(upTo(silent))
		w.told(silent, at(5, 5), nil, api.OK)
	}
}

func TestTheSameRowOfTwoOuts(t *testing.T) { // P32.1, P32.2: each out has its own
	w := begun(t, 3, 1)
	for i, out := range []int{0, 2, 0, 2, 2} {
		w.good(came(out, r(1, "a"), i, 0, 1))
	}
	w.good(upTo(0), upTo(1), upTo(2))
	w.told(0, at(9, 0), counts(count(r(1, "a"), 2)), api.OK)
	w.told(1, at(9, 0), nil, api.OK)
	w.told(2, at(9, 0), counts(count(r(1, "a"), 3)), api.OK)
	w.forget(at(9, 0))
	w.work(100)
	w.length(2)
	w.told(0, at(9, 0), counts(count(r(1, "a"), 2)), api.OK)
	w.told(2, at(9, 0), counts(count(r(1, "a"), 3)), api.OK)
	w.hold(grid(11)...)
}

func TestRowsAndKeys(t *testing.T) { // P32.1, P32.2: a row of just key values, of one less, of one more, up to MaxCols
	for key := range api.MaxCols + 1 {
		w := begun(t, 2, key)
		for length := range api.MaxCols + 1 {
			row := r(many[any](length, "v")...)
			want := api.OK
			if length < key {
				want = api.ErrRange
			}
			if e := w.apply(came(1, row, 0, 0, length+1)); e != want {
				t.Errorf("key %d, %d values: %d, want %d", key, length, int(e), int(want))
			}
		}
		w.good(upTo(1, at(1, 0)))
		w.length(api.MaxCols + 1 - key)
		var want []api.Count
		for length := key; length <= api.MaxCols; length++ {
			want = append(want, count(r(many[any](length, "v")...), length+1))
		}
		w.told(1, at(0, 0), want, api.OK)
		w.got(1, r(many[any](key, "v")...), at(0, 0), want, api.OK)
		w.got(1, r(many[any](key+1, "v")...), at(0, 0), nil, api.ErrArg)
		if key > 0 {
			w.got(1, r(many[any](key-1, "v")...), at(0, 0), nil, api.ErrArg)
			w.got(1, r(append(many[any](key-1, "v"), "w")...), at(0, 0), nil, api.OK)
			w.got(1, nil, at(0, 0), nil, api.ErrArg)
		}
		w.hold(grid(2)...)
	}
}

func TestKeyOfNoValues(t *testing.T) { // P32.2: its one key is the row of no values
	w := begun(t, 1, 0)
	w.good(came(0, nil, 0, 0, 3), came(0, api.Row{}, 0, 0, 1), came(0, r(5, "a"), 0, 0, 2), came(0, r("b"), 1, 0, 1), upTo(0, at(2, 0)))
	want := counts(count(nil, 4), count(r(5, "a"), 2))
	w.told(0, at(0, 9), want, api.OK)
	w.got(0, nil, at(0, 9), want, api.OK)
	w.got(0, api.Row{}, at(0, 9), want, api.OK)
	w.got(0, r(5), at(0, 9), nil, api.ErrArg)
	w.changed(0, at(0, 9), at(1, 0), counts(count(r("b"), 1)), api.OK)
	w.hold(grid(3)...)
}

func TestEdgeRows(t *testing.T) { // P32.1: each limit is itself allowed
	long := strings.Repeat("é", 2048)
	rows := []api.Row{
		r(low), r(high), r(0), r(""), r(long), r(many[any](16, long)...), r("\xff\x00"), r(1, many[any](1, -1)[0]), r(many[any](16, low)...),
	}
	w := begun(t, 1, 1)
	for i, row := range rows {
		w.good(came(0, row, 0, 0, i+1))
	}
	w.good(upTo(0, at(0, 1)))
	for i, row := range rows {
		if !slices.ContainsFunc(rows[:i], func(other api.Row) bool { return sameRow(other[:1], row[:1]) }) {
			c, e := w.v.Get(0, row[:1], at(0, 0))
			if e != api.OK || !sameRow(c[0].Row, row) || c[0].Diff != i+1 {
				t.Errorf("Get of row %d: %s, %d", i, brief(c), int(e))
			}
		}
	}
	w.hold(at(0, 0), at(0, 1))
}

func TestRowsThatAreAlike(t *testing.T) { // the rule of rows: fields of values that play no part tell neither rows nor keys apart
	a := r(api.Val{Kind: 0, Int: 5, Str: "x"}, api.Val{Kind: 1, Int: 6, Str: "a"})
	b := r(api.Val{Kind: 0, Int: 5, Str: "y"}, api.Val{Kind: 1, Int: 7, Str: "a"})
	w := begun(t, 1, 1)
	w.good(came(0, a, 0, 0, 2), came(0, b, 0, 0, 3), came(0, r(5, "a"), 0, 0, -1), upTo(0, at(1, 0)))
	want := counts(count(r(5, "a"), 4))
	w.told(0, at(0, 0), want, api.OK)
	w.got(0, r(5), at(0, 0), want, api.OK)
	w.got(0, r(api.Val{Kind: 0, Int: 5, Str: "z"}), at(0, 0), want, api.OK)
	w.got(0, r(api.Val{Kind: 1, Int: 5}), at(0, 0), nil, api.OK)
	w.work(10)
	w.hold(grid(2)...)
}

func TestFieldsThatPlayNoPart(t *testing.T) { // P32.1: of a change the Front, of a frontier the change are not asked
	w, other := begun(t, sampleOuts, 1), begun(t, sampleOuts, 1)
	for _, n := range sample() {
		w.good(n)
		other.good(odd(n))
	}
	w.hold(grid(10)...)
	other.hold(grid(10)...)
	for out := range sampleOuts {
		for _, when := range grid(10) {
			want, fault := w.v.At(out, when)
			other.told(out, when, want, fault)
		}
	}
}

func TestChangesAtTheFrontier(t *testing.T) { // P32.1: a change at one of its times may come yet, one just ahead of it no more
	f := times(at(0, 4), at(2, 2), at(5, 0))
	w := begun(t, 2, 1)
	w.good(upTo(1, f...), came(0, r(1), 0, 0, 1))
	for epoch := range 8 {
		for round := range 8 {
			want := api.ErrTime
			if isAhead(f, at(epoch, round)) {
				want = api.OK
			}
			if e := w.apply(came(1, r(1), epoch, round, 1)); e != want {
				t.Errorf("a change at (%d, %d): %d, want %d", epoch, round, int(e), int(want))
			}
		}
	}
	for _, u := range f {
		w.good(came(1, r(2), u.Epoch, u.Round, 1))
		w.told(1, u, nil, api.ErrOpen)
	}
	w.complete(1, f...)
	w.hold(grid(8)...)
	w.good(upTo(1))
	w.told(1, at(4, 4), counts(count(r(1), 11), count(r(2), 2)), api.OK)
	w.hold(grid(8)...)
}

func TestFrontiersThatStay(t *testing.T) { // P32.1: a frontier is LessEq itself
	for _, f := range [][]api.Time{{}, {at(0, 0)}, {at(0, 4), at(3, 0)}, rising(1024), {at(last, last)}} {
		w := begun(t, 1, 0)
		for range 3 {
			w.good(upTo(0, f...))
			w.complete(0, f...)
		}
		w.hold(grid(3)...)
	}
}

func TestEmptyFrontiers(t *testing.T) { // P32.1, P32.2: every time is closed then, and no more change may come
	for _, empty := range []api.Note{upTo(0), {Front: []api.Time{}}} {
		w := begun(t, 2, 1)
		w.good(came(0, r(1), 2, 3, 4), empty, came(1, r(1), 0, 0, 1))
		for _, when := range times(at(0, 0), at(2, 3), at(9, 9), at(last, last)) {
			w.refused("a change", came(0, r(1), when.Epoch, when.Round, 1), api.ErrTime, when)
			w.refused("a frontier", upTo(0, when), api.ErrTime, when)
		}
		w.good(empty)
		w.complete(0)
		w.told(0, at(0, 0), nil, api.OK)
		w.told(0, at(2, 3), counts(count(r(1), 4)), api.OK)
		w.told(0, at(last, last), counts(count(r(1), 4)), api.OK)
		w.told(0, at(last+1, 0), nil, api.ErrOpen)
		w.changed(0, at(2, 2), at(last, last), counts(count(r(1), 4)), api.OK)
		w.hold(grid(4)...)
	}
}

func TestTheGreatestTimes(t *testing.T) { // P32.1 to P32.3
	w := begun(t, 1, 1)
	w.good(came(0, r(1), last, last, 1), came(0, r(2), last, 0, 2), came(0, r(3), 0, last, 4), upTo(0, at(last, last)))
	w.told(0, at(last, last), nil, api.ErrOpen)
	w.told(0, at(last, last-1), counts(count(r(2), 2)), api.OK)
	w.told(0, at(last-1, last), counts(count(r(3), 4)), api.OK)
	w.good(came(0, r(4), last, last, 8))
	w.forget(at(last, last))
	w.hold(grid(2)...)
	w.good(came(0, r(1), last, last, 1), upTo(0))
	w.told(0, at(last, last), counts(count(r(1), 2), count(r(2), 2), count(r(3), 4), count(r(4), 8)), api.OK)
	w.told(0, at(last, last-1), nil, api.ErrCompacted)
	w.work(100)
	w.length(4)
	w.hold(grid(2)...)
}

func TestChangesThatLeaveNothing(t *testing.T) { // P32.2, P32.3
	w := begun(t, 1, 1)
	w.good(came(0, r(1, "a"), 0, 0, 3), came(0, r(1, "a"), 1, 0, -2), came(0, r(1, "a"), 1, 0, -1), came(0, r(1, "b"), 1, 0, 1), came(0, r(1, "b"), 2, 0, -1), upTo(0))
	w.told(0, at(0, 0), counts(count(r(1, "a"), 3)), api.OK)
	w.told(0, at(1, 0), counts(count(r(1, "b"), 1)), api.OK)
	w.told(0, at(2, 0), nil, api.OK)
	w.got(0, r(1), at(2, 0), nil, api.OK)
	w.changed(0, at(0, 0), at(2, 0), counts(count(r(1, "a"), -3)), api.OK)
	w.forget(at(2, 0))
	w.work(1000)
	w.length(0)
	w.told(0, at(2, 0), nil, api.OK)
	w.hold(grid(4)...)
}

func TestChangesOfDiff0(t *testing.T) { // P32.1: they are taken, and are nothing
	w := begun(t, 1, 1)
	for i := range 20 {
		w.good(came(0, r(i), i, 0, 0))
		w.length(0)
	}
	w.refused("of Diff 0, ahead of the frontier", came(1, r(1), 0, 0, 0), api.ErrRange)
	w.good(upTo(0, at(5, 0)))
	w.refused("of Diff 0, ahead of the frontier", came(0, r(1), 4, 9, 0), api.ErrTime)
	w.refused("of Diff 0, of too few values", came(0, nil, 5, 0, 0), api.ErrRange)
	w.told(0, at(4, 0), nil, api.OK)
	w.work(1000)
	w.hold(grid(6)...)
}

func TestBetweenEachTwo(t *testing.T) { // P32.2: s and t the same, s behind t, and neither ahead of the other
	w := begun(t, 1, 1)
	w.good(came(0, r(1), 0, 0, 1), came(0, r(2), 1, 0, 2), came(0, r(3), 0, 1, 4), came(0, r(4), 1, 1, 8), came(0, r(1), 2, 2, -1), upTo(0))
	w.changed(0, at(1, 0), at(1, 0), nil, api.OK)
	w.changed(0, at(0, 0), at(1, 1), counts(count(r(2), 2), count(r(3), 4), count(r(4), 8)), api.OK)
	w.changed(0, at(1, 1), at(0, 0), counts(count(r(2), -2), count(r(3), -4), count(r(4), -8)), api.OK)
	w.changed(0, at(1, 0), at(0, 1), counts(count(r(2), -2), count(r(3), 4)), api.OK)
	w.changed(0, at(0, 1), at(1, 0), counts(count(r(2), 2), count(r(3), -4)), api.OK)
	w.changed(0, at(0, 0), at(2, 2), counts(count(r(1), -1), count(r(2), 2), count(r(3), 4), count(r(4), 8)), api.OK)
	w.changed(0, at(2, 2), at(2, 2), nil, api.OK)
	for _, s := range grid(4) {
		for _, u := range grid(4) {
			w.holdBetween(0, s, u)
		}
	}
}

func TestForget(t *testing.T) { // P32.3: the frontier of (0, 0), what was forgotten already, several times, ahead of any note and behind many
	w := begun(t, 2, 1)
	for range 2 {
		if e := w.forget(at(0, 0)); e != api.OK {
			t.Error(e)
		}
	}
	w.good(came(0, r(1), 0, 0, 1), upTo(0, at(0, 6), at(6, 0)), upTo(1, at(9, 9)))
	for _, f := range [][]api.Time{{at(0, 0)}, {at(0, 2), at(1, 0)}, {at(0, 2), at(1, 0)}, {at(0, 5), at(1, 3), at(2, 2)}, {at(2, 3)}, {at(2, 3)}, {at(4, 4)}} {
		if e := w.forget(f...); e != api.OK {
			t.Errorf("Forget(%v): %d", f, int(e))
		}
		w.hold(grid(7)...)
		w.good(came(0, r(2, "b"), 6, 0, 1), came(1, r(3), 9, 9, 2))
	}
	w.told(0, at(4, 4), counts(count(r(1), 1)), api.OK)
	w.told(0, at(3, 4), nil, api.ErrCompacted)
	w.told(0, at(4, 3), nil, api.ErrCompacted)
	w.told(0, at(6, 1), nil, api.ErrOpen)
	for _, f := range [][]api.Time{{at(4, 3)}, {at(3, 4)}, {at(0, 0)}, {at(3, 9), at(5, 5)}} {
		if e := w.forget(f...); e != api.ErrTime {
			t.Errorf("Forget(%v): %d", f, int(e))
		}
		w.hold(grid(7)...)
	}
}

func TestForgetAheadOfAnyNote(t *testing.T) { // P32.3, P32.1: changes at times that are not in advance of what was forgotten come all the same, and count from there on
	w := begun(t, 2, 1)
	w.forget(at(0, 3), at(2, 1))
	w.good(came(0, r(1), 0, 0, 1), came(0, r(1), 1, 2, 2), came(0, r(1), 1, 0, 4), came(0, r(2), 2, 0, 8), came(0, r(3), 3, 3, 16), came(1, r(1), 0, 0, 32), upTo(0), upTo(1, at(1, 4)))
	w.told(0, at(0, 0), nil, api.ErrCompacted)
	w.told(0, at(2, 0), nil, api.ErrCompacted)
	w.told(0, at(1, 2), nil, api.ErrCompacted)
	w.told(0, at(0, 3), counts(count(r(1), 1)), api.OK)
	w.told(0, at(1, 3), counts(count(r(1), 7)), api.OK)
	w.told(0, at(2, 1), counts(count(r(1), 5), count(r(2), 8)), api.OK)
	w.told(0, at(3, 3), counts(count(r(1), 7), count(r(2), 8), count(r(3), 16)), api.OK)
	w.told(1, at(0, 3), counts(count(r(1), 32)), api.OK)
	w.told(1, at(1, 3), counts(count(r(1), 32)), api.OK)
	w.told(1, at(1, 4), nil, api.ErrOpen)
	w.hold(grid(5)...)
	w.work(1000)
	w.hold(grid(5)...)
}

func TestForgetBeyondTheFrontiers(t *testing.T) { // P32.3: no out's frontier is asked
	w := begun(t, 3, 1)
	w.good(came(0, r(1), 0, 0, 1), came(0, r(1), 1, 0, 1), came(1, r(2), 7, 7, 1), upTo(0, at(2, 0)), upTo(2))
	if e := w.forget(at(5, 5)); e != api.OK {
		t.Fatal(e)
	}
	w.told(0, at(1, 9), nil, api.ErrCompacted)
	w.told(0, at(5, 5), nil, api.ErrOpen)
	w.told(1, at(0, 0), nil, api.ErrOpen)
	w.told(2, at(0, 0), nil, api.ErrCompacted)
	w.told(2, at(5, 5), nil, api.OK)
	w.good(came(0, r(1), 2, 0, 1), came(1, r(2), 0, 0, 1), upTo(0, at(6, 0)), upTo(1))
	w.told(0, at(5, 5), counts(count(r(1), 3)), api.OK)
	w.told(1, at(6, 6), counts(count(r(2), 1)), api.OK)
	w.told(1, at(7, 7), counts(count(r(2), 2)), api.OK)
	w.hold(grid(8)...)
}

func TestForgetAll(t *testing.T) { // P32.3: behind the empty frontier no time is told any more
	for _, empty := range [][]api.Time{nil, {}} {
		w := begun(t, 2, 1)
		w.good(came(0, r(1), 0, 0, 1), came(0, r(1), 1, 0, 1), upTo(0, at(5, 0)))
		for range 2 {
			if e := w.forget(empty...); e != api.OK {
				t.Error(e)
			}
		}
		w.told(0, at(1, 0), nil, api.ErrCompacted)
		w.got(0, r(1), at(1, 0), nil, api.ErrCompacted)
		w.changed(0, at(1, 0), at(1, 0), nil, api.ErrCompacted)
		w.told(0, at(5, 0), nil, api.ErrOpen)
		w.told(1, at(5, 0), nil, api.ErrOpen)
		if e := w.forget(at(last, last)); e != api.ErrTime {
			t.Error(e)
		}
		w.good(came(0, r(1), 5, 0, 1), came(1, r(1), 0, 0, 1), upTo(1))
		w.told(1, at(last, last), nil, api.ErrCompacted)
		w.work(100)
		w.hold(grid(6)...)
	}
}

func TestWork(t *testing.T) { // P32.3: fuel 0, below 0, 1 again and again, much
	for _, outs := range []int{1, 3, 8} {
		w := begun(t, outs, 1)
		for i := range 60 {
			w.good(came(i%outs, r(i%4, i%3), i%5, i%2, 1))
		}
		for out := range outs {
			w.good(upTo(out, at(9, 9)))
		}
		w.forget(at(3, 1))
		had := w.v.Len()
		for _, fuel := range []int{0, -1, -1000, low} {
			if left, e := w.work(fuel); left != 0 || e != api.OK {
				t.Errorf("Work(%d) = %d, %d", fuel, left, int(e))
			}
			w.length(had)
		}
		steps := 0
		for left := 0; left == 0; steps++ {
			var e api.Errno
			if left, e = w.work(1); e != api.OK || left > 1 || steps > 10000 {
				t.Fatalf("Work(1) = %d, %d behind %d steps", left, int(e), steps)
			}
			w.holdLen()
		}
		if w.v.Len() >= had || steps < 20 {
			t.Errorf("%d outs: %d changes of %d are left, behind %d steps", outs, w.v.Len(), had, steps)
		}
		for _, fuel := range []int{0, 1, 1000, high} {
			if left, e := w.work(fuel); left != fuel || e != api.OK {
				t.Errorf("Work(%d) where nothing is left to do = %d, %d", fuel, left, int(e))
			}
		}
		w.hold(grid(10)...)
	}
}

func TestMuchWork(t *testing.T) { // P32.3: all at once
	w := begun(t, 2, 0)
	for i := range 100 {
		w.good(came(i%2, r(i%10), i, 0, 1))
	}
	w.forget(at(200, 0))
	left, e := w.work(1 << 30)
	if e != api.OK || left < 1<<30-10000 || left == 1<<30 {
		t.Errorf("Work: %d, %d", left, int(e))
	}
	w.length(10)
	w.good(upTo(0), upTo(1))
	w.told(0, at(200, 0), counts(count(r(0), 10), count(r(2), 10), count(r(4), 10), count(r(6), 10), count(r(8), 10)), api.OK)
}

func TestWhereFuelEnds(t *testing.T) { // P32.3: of several outs the first one is worked first, the next one with what is left
	build := func() *watched {
		w := begun(t, 3, 1)
		for range 2 {
			for out := range 3 {
				w.good(came(out, r(1), 0, 0, 1))
			}
		}
		return w
	}
	w := build()
	w.length(6)
	for i, want := range []int{5, 4, 3} { // two changes are one, out by out
		if left, e := w.work(2); left != 0 || e != api.OK {
			t.Errorf("Work(2) = %d, %d", left, int(e))
		}
		w.length(want)
		if got := w.twins[i].Still(); !got {
			t.Errorf("the spine of the out %d is not still", i)
		}
	}
	for fuel, want := range map[int]struct{ left, length int }{1: {0, 5}, 3: {0, 4}, 4: {0, 4}, 5: {0, 3}, 6: {0, 3}, 7: {1, 3}, 100: {94, 3}} {
		w := build()
		if left, e := w.work(fuel); left != want.left || e != api.OK {
			t.Errorf("Work(%d) = %d, %d, want %d", fuel, left, int(e), want.left)
		}
		w.length(want.length)
	}
}

func TestLen(t *testing.T) { // P32.3: as many as the spines have, behind each call
	w := begun(t, 2, 1)
	for i := range 40 {
		w.good(came(i%2, r(i%3), i, 0, 1))
		w.holdLen()
		if i%8 == 7 {
			w.forget(at(i, 0))
			w.holdLen()
			w.work(5)
			w.holdLen()
		}
	}
	w.good(upTo(0), upTo(1, at(50, 0)))
	w.forget(at(40, 0))
	w.work(100000)
	w.length(6)
}

func TestMaxNotes(t *testing.T) { // P32.1: just so many, and one more of a change and of a frontier: ErrMany, and nothing has changed
	for _, n := range []api.Note{came(0, r(1), 0, 0, 1), came(1, r(1, "b"), 3, 0, 0), upTo(1, at(0, 0)), upTo(0, at(2, 0))} {
		v, e := view.New(2, 1)
		if e != api.OK {
			t.Fatal(e)
		}
		if e := v.Apply(came(0, r(5), 0, 0, 7)); e != api.OK {
			t.Fatal(e)
		}
		for range api.MaxNotes - 2 {
			if e := v.Apply(n); e != api.OK {
				t.Fatal(e)
			}
			// Notes that are refused do not count.
			if e := v.Apply(upTo(2)); e != api.ErrRange {
				t.Fatal(e)
			}
			if e := v.Apply(came(1, nil, 3, 0, 1)); e != api.ErrRange {
				t.Fatal(e)
			}
			if e := v.Apply(upTo(1, at(1, 1), at(0, 0))); e != api.ErrForm {
				t.Fatal(e)
			}
		}
		if e := v.Apply(upTo(0, at(4, 0))); e != api.OK {
			t.Fatal(e)
		}
		length := v.Len()
		there, e := v.At(0, at(3, 0))
		if e != api.OK || len(there) == 0 {
			t.Errorf("At: %s, %d", brief(there), int(e))
		}
		for _, more := range notes(came(0, r(1), 4, 0, 1), upTo(0, at(5, 0)), upTo(0), upTo(7), came(-1, nil, 0, 0, 1), api.Note{IsUp: true, Up: oddUp()}, upTo(0, rising(1025)...), upTo(0, at(0, 0)), came(1, nil, 3, 0, 1)) {
			if e := v.Apply(more); e != api.ErrMany {
				t.Errorf("Apply(%s) behind MaxNotes = %d", brief(more), int(e))
			}
		}
		f, e := v.Front(0)
		if e != api.OK || !slices.Equal(f, times(at(4, 0))) || v.Len() != length {
			t.Errorf("Front: %v, %d; Len: %d, want %d", f, int(e), v.Len(), length)
		}
		if again, e := v.At(0, at(3, 0)); e != api.OK || !sameCounts(again, there) {
			t.Errorf("At: %s, %d, want %s", brief(again), int(e), brief(there))
		}
		if e := v.Forget(times(at(3, 0))); e != api.OK {
			t.Error(e)
		}
		if left, e := v.Work(1 << 30); e != api.OK || left == 0 || v.Len() > 3 {
			t.Errorf("Work: %d, %d; Len: %d", left, int(e), v.Len())
		}
		if again, e := v.At(0, at(3, 0)); e != api.OK || !sameCounts(again, there) {
			t.Errorf("At behind Work: %s, %d, want %s", brief(again), int(e), brief(there))
		}
	}
}

func TestMaxNotesOfManyRows(t *testing.T) { // P32.1 to P32.3: each row another one, at many times
	v, e := view.New(8, 1)
	if e != api.OK {
		t.Fatal(e)
	}
	for i := range api.MaxNotes - 8 {
		if e := v.Apply(came(i%8, r(i/80, i), i%100, i%7, 1)); e != api.OK {
			t.Fatal(e)
		}
	}
	for out := range 8 {
		if e := v.Apply(upTo(out, at(100, 0))); e != api.OK {
			t.Fatal(e)
		}
	}
	if e := v.Apply(upTo(0, at(100, 0))); e != api.ErrMany {
		t.Error(e)
	}
	if got := v.Len(); got != api.MaxNotes-8 {
		t.Errorf("Len = %d", got)
	}
	all := 0
	for out := range 8 {
		c, e := v.At(out, at(99, 7))
		if e != api.OK {
			t.Fatal(e)
		}
		all += len(c)
	}
	if all != api.MaxNotes-8 {
		t.Errorf("%d rows, want %d", all, api.MaxNotes-8)
	}
	c, e := v.Get(3, r(5), at(99, 7))
	if e != api.OK || len(c) != 10 || !sameRow(c[0].Row, r(5, 403)) {
		t.Errorf("Get: %s, %d", brief(c), int(e))
	}
	if c, e := v.Between(3, at(98, 7), at(99, 7)); e != api.OK || len(c) == 0 || len(c) > 400 {
		t.Errorf("Between: %d rows, %d", len(c), int(e))
	}
}

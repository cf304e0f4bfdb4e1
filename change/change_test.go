package change_test

import (
	"bytes"
	"fmt"
	"slices"
	"testing"

	"runnel/api"
	"runnel/change"
)

func TestThePage(t *testing.T) { // P27.1, P27.3: the page's example
	l := pageLog()
	holdCheck(t, "the page's", 1, l, api.OK, 2)
	holdFront(t, 1, 0, l, times(pair(1, 0)), api.OK)
	holdAt(t, 1, 0, l, pair(0, 5), []api.Count{{Row: r("a"), Diff: 1}}, api.OK)
	holdAt(t, 1, 0, l, pair(1, 0), nil, api.ErrOpen)
	hold(t, 1, l, grid(4)...)
}

func TestSample(t *testing.T) { // P27.1 to P27.3: by hand
	l := sample()
	holdCheck(t, "the sample", 4, l, api.OK, len(l))
	for out, want := range [][]api.Time{{pair(0, 3), pair(2, 0)}, {}, {pair(4, 4)}, {pair(0, 0)}} {
		holdFront(t, 4, out, l, want, api.OK)
	}
	holdAt(t, 4, 0, l, pair(0, 0), []api.Count{{Row: r(7, "a"), Diff: 1}}, api.OK)
	holdAt(t, 4, 0, l, pair(0, 2), []api.Count{{Row: r(7, "a"), Diff: 1}}, api.OK)
	holdAt(t, 4, 0, l, pair(1, 0), nil, api.OK)
	holdAt(t, 4, 0, l, pair(1, 2), nil, api.OK)
	holdAt(t, 4, 0, l, pair(0, 3), nil, api.ErrOpen)
	holdAt(t, 4, 0, l, pair(2, 0), nil, api.ErrOpen)
	holdAt(t, 4, 1, l, pair(9, 8), nil, api.OK)
	holdAt(t, 4, 1, l, pair(9, 9), []api.Count{{Diff: 5}}, api.OK)
	holdAt(t, 4, 1, l, pair(1<<40, 1<<40), []api.Count{{Diff: 5}}, api.OK)
	holdAt(t, 4, 2, l, pair(3, 1<<40), []api.Count{{Row: r(low, high, ""), Diff: high}, {Row: r("b"), Diff: -2}}, api.OK)
	holdAt(t, 4, 2, l, pair(4, 4), nil, api.ErrOpen)
	holdAt(t, 4, 3, l, pair(0, 0), nil, api.ErrOpen)
	if e := hold(t, 4, l, grid(11)...); e != api.OK {
		t.Error(e)
	}
}

func TestOutsThatAreMore(t *testing.T) { // P27.1: outs without notes play no part
	for outs := sampleOuts; outs <= 8; outs++ {
		holdCheck(t, "more outs", outs, sample(), api.OK, len(sample()))
		for out := 3; out < outs; out++ {
			holdFront(t, outs, out, sample(), times(pair(0, 0)), api.OK)
			holdAt(t, outs, out, sample(), pair(0, 0), nil, api.ErrOpen)
			holdAt(t, outs, out, sample(), pair(1<<40, 1<<40), nil, api.ErrOpen)
		}
	}
	holdCheck(t, "an out less", 3, sample(), api.OK, len(sample()))
	holdCheck(t, "two outs less", 2, sample(), api.ErrRange, 1)
}

func TestEachOut(t *testing.T) { // P27.1, P27.3: of 1 to MaxOuts outs each by itself
	for outs := 1; outs <= 8; outs++ {
		var l []api.Note
		for out := range outs {
			l = append(l, came(out, r(out), out, 0, out+1), upTo(out, pair(out+1, 0)), came(out, r(out), out+1, 0, -1))
		}
		for out := range outs {
			holdFront(t, outs, out, l, times(pair(out+1, 0)), api.OK)
			holdAt(t, outs, out, l, pair(out, 5), []api.Count{{Row: r(out), Diff: out + 1}}, api.OK)
			holdAt(t, outs, out, l, pair(out+1, 0), nil, api.ErrOpen)
		}
		hold(t, outs, l, grid(10)...)
	}
}

func TestNoNotes(t *testing.T) { // P27.1 to P27.4: each out begins with the frontier of the time (0, 0)
	for _, l := range [][]api.Note{nil, {}} {
		for outs := 1; outs <= 8; outs++ {
			holdCheck(t, "no notes", outs, l, api.OK, 0)
			var want []api.Note
			for out := range outs {
				holdFront(t, outs, out, l, times(pair(0, 0)), api.OK)
				holdAt(t, outs, out, l, pair(0, 0), nil, api.ErrOpen)
				want = append(want, upTo(out, pair(0, 0)))
			}
			if m, e := change.Tidy(outs, l, times(pair(0, 0))); e != api.OK || !sameAll(m, want) {
				t.Errorf("Tidy of no notes: %s, %d", brief(m), e)
			}
			if m, e := change.Tidy(outs, l, times(pair(0, 1))); e != api.ErrTime || len(m) != 0 {
				t.Errorf("Tidy of no notes: %s, %d", brief(m), e)
			}
		}
		holdTold(t, "no notes", l, []byte{0})
	}
}

func TestEmptyFrontiers(t *testing.T) { // P27.1, P27.3: nothing comes behind one but the same again
	for _, empty := range []api.Note{upTo(0), {Front: []api.Time{}}} {
		l := notes(came(0, r(1), 2, 3, 4), empty)
		holdCheck(t, "an empty frontier", 1, l, api.OK, 2)
		holdCheck(t, "and again", 1, and(l, empty, empty), api.OK, 4)
		holdCheck(t, "and another out's", 2, and(l, came(1, r(1), 0, 0, 1), upTo(1, pair(1, 1))), api.OK, 4)
		holdCheck(t, "and a change", 1, and(l, came(0, r(1), 9, 9, 1)), api.ErrTime, 2)
		holdCheck(t, "and a frontier", 1, and(l, upTo(0, pair(9, 9))), api.ErrTime, 2)
		holdFront(t, 1, 0, l, nil, api.OK)
		holdAt(t, 1, 0, l, pair(0, 0), nil, api.OK)
		holdAt(t, 1, 0, l, pair(2, 3), []api.Count{{Row: r(1), Diff: 4}}, api.OK)
		holdAt(t, 1, 0, l, pair(1<<40, 1<<40), []api.Count{{Row: r(1), Diff: 4}}, api.OK)
		holdAt(t, 1, 0, l, pair(1<<40+1, 0), nil, api.ErrOpen)
		hold(t, 1, l, grid(4)...)
	}
}

func TestFrontiersNotedTwice(t *testing.T) { // P27.1: a frontier is LessEq itself
	for _, f := range [][]api.Time{{}, {pair(0, 0)}, {pair(0, 4), pair(3, 0)}, rising(1024), {pair(1<<40, 1<<40)}} {
		l := many(3, upTo(0, f...))
		holdCheck(t, "thrice", 1, l, api.OK, 3)
		holdFront(t, 1, 0, l, f, api.OK)
		hold(t, 1, l, grid(3)...)
	}
}

func TestChangesAtTheFrontier(t *testing.T) { // P27.1: a change at one of its times may come yet, one just ahead of it no more
	f := times(pair(0, 4), pair(2, 2), pair(5, 0))
	l := notes(upTo(0, f...))
	for epoch := range 8 {
		for round := range 8 {
			hold(t, 1, and(l, came(0, r(1), epoch, round, 1)))
			hold(t, 1, and(l, upTo(0, pair(epoch, round))))
			hold(t, 1, and(l, upTo(0), came(0, r(1), epoch, round, 1)))
		}
	}
	for _, u := range f {
		holdCheck(t, "at it", 1, and(l, came(0, r(1), u.Epoch, u.Round, 1)), api.OK, 2)
		holdCheck(t, "a frontier of one of its times", 1, and(l, upTo(0, u)), api.OK, 2)
	}
	holdCheck(t, "the last time", 1, and(l, came(0, r(1), 1<<40, 1<<40, 1), upTo(0, pair(1<<40, 1<<40))), api.OK, 3)
}

func TestFrontiersByTheOut(t *testing.T) { // P27.1: what is noted of one out plays no part for the others
	l := notes(upTo(1, pair(5, 5)), came(0, r(1), 0, 0, 1), came(2, r(1), 4, 4, 1), upTo(0, pair(1, 1)), upTo(2))
	holdCheck(t, "three outs", 3, l, api.OK, 5)
	holdCheck(t, "ahead of the other's", 3, and(l, came(0, r(2), 1, 1, 1)), api.OK, 6)
	holdCheck(t, "ahead of its own", 3, and(l, came(1, r(2), 4, 9, 1)), api.ErrTime, 5)
	hold(t, 3, l, grid(7)...)
}

func TestManyNotes(t *testing.T) { // P27.1 to P27.4: MaxNotes of them
	var l []api.Note
	for i := range 65534 {
		l = append(l, came(i%2, r(i/2), i%3, 0, 1))
	}
	l = append(l, upTo(0, pair(3, 0)), upTo(1))
	holdCheck(t, "MaxNotes", 2, l, api.OK, 65536)
	holdFront(t, 2, 0, l, times(pair(3, 0)), api.OK)
	c, e := change.At(2, 1, l, pair(9, 9))
	if e != api.OK || len(c) != 32767 || !sameRow(c[32766].Row, r(32766)) {
		t.Errorf("At: %d counts, %d", len(c), e)
	}
	if c, e = change.At(2, 0, l, pair(0, 0)); e != api.OK || len(c) != 10923 {
		t.Errorf("At: %d counts, %d", len(c), e)
	}
	holdTold(t, "MaxNotes", l, askedLog(l))
	m, e := change.Tidy(2, l, times(pair(1, 0)))
	if e != api.OK || len(m) != 65536 || m[0].Up.Time != pair(1, 0) || m[32767].IsUp || !same(m[65535], upTo(1)) {
		t.Errorf("Tidy: %d notes, %d", len(m), e)
	}
	for i := range l {
		l[i] = came(0, r(i), 0, 0, 1)
	}
	// The chapter's words set Tidy no bound: behind MaxNotes changes that stay comes the frontier.
	if m, e = change.Tidy(1, l, times(pair(0, 0))); e != api.OK || len(m) != 65537 || !same(m[65536], upTo(0, pair(0, 0))) {
		t.Errorf("Tidy: %d notes, %d", len(m), e)
	}
	l = many(65536, came(7, r("one"), 0, 0, 1))
	holdCheck(t, "MaxNotes of one row", 8, l, api.OK, 65536)
	if m, e = change.Tidy(8, l, times(pair(0, 0))); e != api.OK || len(m) != 9 || m[7].Up.Diff != 65536 {
		t.Errorf("Tidy: %s, %d", brief(m), e)
	}
}

func TestEncodedByHand(t *testing.T) { // P27.2: byte by byte
	for _, c := range []struct {
		name string
		l    []api.Note
		want string
	}{
		{"nothing", nil, "00"},
		{"the page's", pageLog(), "02  00 01 01 01 01 61 00 00 02  00 00 01 02 00"},
		{"a change", notes(came(1, r(-1), 1, 2, -3)), "01  02 01 01 00 01 02 04 05"},
		{"a change of no value", notes(came(0, nil, 0, 0, 0)), "01  00 01 00 00 00 00"},
		{"a change of two values", notes(came(-1, r("ab", 3), -1, 64, 300)), "01  01 01 02 01 02 6162 00 06 01 8100 8458"},
		{"an empty frontier", notes(upTo(3)), "01  06 00 00"},
		{"a frontier", notes(upTo(64, pair(0, 5), pair(4, -1))), "01  8100 00 02 00 0a 08 01"},
		{"the least and the greatest", notes(came(low, nil, high, 0, low), upTo(high)), "02  81ffffffffffffffff7f 01 00 81ffffffffffffffff7e 00 81ffffffffffffffff7f  81ffffffffffffffff7e 00 00"},
		{"fields that play no part", oddAll(notes(came(1, r(-1), 1, 2, -3), upTo(3))), "02  02 01 01 00 01 02 04 05  06 00 00"},
	} {
		holdTold(t, c.name, c.l, fromHex(c.want))
	}
}

func TestEncodedEdges(t *testing.T) { // P27.1, P27.2: each limit is itself allowed
	var all []api.Note
	for name, n := range edgeNotes() {
		holdCheck(t, name, 1, notes(n), api.OK, 1)
		holdTold(t, name, notes(n), askedLog(notes(n)))
		holdTold(t, name+", thrice", many(3, n), askedLog(many(3, n)))
		all = append(all, n)
	}
	for name, n := range freeNotes() {
		holdTold(t, name, notes(n), askedLog(notes(n)))
		if e, at := change.Check(8, notes(n)); e == api.OK || at != 0 {
			t.Errorf("%s: Check = %d, %d", name, e, at)
		}
		all = append(all, n)
	}
	holdTold(t, "all of them", all, askedLog(all))
	for _, count := range []int{1, 2, 127, 128, 129, 16383, 16384} {
		l := slices.Repeat(notes(upTo(1, pair(1, 2)), came(2, r("a", 5), 3, 4, -5)), (count+1)/2)[:count]
		holdTold(t, fmt.Sprint(count, " notes"), l, askedLog(l))
	}
	for count := range 17 {
		l := notes(came(0, r(many[any](count, "ab")...), 1, 2, 3), upTo(0, rising(count)...))
		holdTold(t, fmt.Sprint(count, " values"), l, askedLog(l))
	}
}

func TestNumbersOfNotes(t *testing.T) { // P27.2: in each field that is a number, nothing is asked of it
	for _, x := range []int{low, low + 1, -1 << 62, -1 << 40, -65, -64, -63, -2, -1, 0, 1, 62, 63, 64, 8191, 8192, 1 << 40, 1<<40 + 1, 1<<62 - 1, 1 << 62, high - 1, high} {
		for i := range 5 {
			n := came(1, r(2, "a"), 3, 4, 5)
			*[]*int{&n.Out, &n.Up.Row[0].Int, &n.Up.Time.Epoch, &n.Up.Time.Round, &n.Up.Diff}[i] = x
			holdTold(t, fmt.Sprintf("%d at the number %d", x, i), notes(n), askedLog(notes(n)))
		}
		for i := range 5 {
			n := upTo(1, pair(2, 3), pair(4, 5))
			*[]*int{&n.Out, &n.Front[0].Epoch, &n.Front[0].Round, &n.Front[1].Epoch, &n.Front[1].Round}[i] = x
			holdTold(t, fmt.Sprintf("%d at the number %d of a frontier", x, i), notes(n), askedLog(notes(n)))
		}
	}
}

func TestFieldsThatPlayNoPart(t *testing.T) { // P27.1 to P27.4: whatever is in them, the same answers and the same bytes
	l, oddly := sample(), oddAll(sample())
	since := times(pair(0, 0))
	holdCheck(t, "odd", 4, oddly, api.OK, len(l))
	holdTold(t, "odd", oddly, askedLog(l))
	for out := range 4 {
		f, e := change.Front(4, out, l)
		holdFront(t, 4, out, oddly, f, e)
		for _, at := range grid(11) {
			c, e := change.At(4, out, l, at)
			holdAt(t, 4, out, oddly, at, c, e)
		}
	}
	m, e := change.Tidy(4, l, since)
	again, f := change.Tidy(4, oddly, since)
	if e != api.OK || f != api.OK || !sameAll(m, again) {
		t.Errorf("Tidy: %s, %d, and of the odd ones: %s, %d", brief(m), e, brief(again), f)
	}
	for _, n := range and(m, again...) {
		if !same(n, plain(n)) {
			t.Errorf("Tidy tells something in a field that plays no part: %s", brief(n))
		}
	}
}

func TestAtAddsAsTheyCame(t *testing.T) { // P27.3: zset.At's sums, and its error
	l := notes(
		came(0, r(1), 0, 0, high), came(0, r(2), 0, 0, high), came(0, r(1), 1, 0, 1), came(0, r(2), 0, 1, -1),
		came(0, r(1), 0, 1, -1), came(0, r(2), 1, 0, 1), came(1, r(1), 0, 0, low), came(1, r(1), 0, 0, low), upTo(0), upTo(1))
	holdAt(t, 2, 0, l, pair(0, 0), []api.Count{{Row: r(1), Diff: high}, {Row: r(2), Diff: high}}, api.OK)
	holdAt(t, 2, 0, l, pair(0, 1), []api.Count{{Row: r(1), Diff: high - 1}, {Row: r(2), Diff: high - 1}}, api.OK)
	holdAt(t, 2, 0, l, pair(1, 0), nil, api.ErrOver)
	holdAt(t, 2, 0, l, pair(1, 1), nil, api.ErrOver)
	holdAt(t, 2, 0, and(l[1:2], l[3], l[5], upTo(0)), pair(1, 1), []api.Count{{Row: r(2), Diff: high}}, api.OK)
	holdAt(t, 2, 1, l, pair(0, 0), nil, api.ErrOver)
	hold(t, 2, l, grid(3)...)
}

func TestRowsThatAreAlike(t *testing.T) { // the rule of rows: fields of values that play no part tell no rows apart
	a := r(api.Val{Kind: 0, Int: 5, Str: "x"}, api.Val{Kind: 1, Int: 6, Str: "a"})
	b := r(api.Val{Kind: 0, Int: 5, Str: "y"}, api.Val{Kind: 1, Int: 7, Str: "a"})
	l := notes(came(0, a, 0, 0, 2), came(0, b, 0, 0, 3), came(0, r(5, "a"), 0, 0, -1), upTo(0, pair(1, 0)))
	holdAt(t, 1, 0, l, pair(0, 0), []api.Count{{Row: r(5, "a"), Diff: 4}}, api.OK)
	if m, e := change.Tidy(1, l, times(pair(0, 0))); e != api.OK || !sameAll(m, notes(came(0, r(5, "a"), 0, 0, 4), upTo(0, pair(1, 0)))) {
		t.Errorf("Tidy: %s, %d", brief(m), e)
	}
	holdTold(t, "alike", l, askedLog(l))
}

func TestTidyByHand(t *testing.T) { // P27.4: out by out, changes by their rows and times, then the frontier
	l := notes(
		came(1, r("b"), 2, 0, 1),
		came(0, r(9), 3, 3, 3),
		came(0, r(7), 0, 0, 1),
		upTo(0, pair(1, 0)),
		came(0, r(7), 1, 0, -1),
		came(0, r(8), 1, 0, 6),
		came(0, r(8), 2, 0, 7),
		came(1, r("a"), 0, 0, 5),
		upTo(1, pair(2, 0)),
		upTo(0, pair(2, 0)),
		came(0, r(8), 2, 1, -7),
	)
	for _, c := range []struct {
		since []api.Time
		want  []api.Note
	}{
		{times(pair(0, 0)), notes(
			came(0, r(7), 0, 0, 1), came(0, r(7), 1, 0, -1), came(0, r(8), 1, 0, 6), came(0, r(8), 2, 0, 7), came(0, r(8), 2, 1, -7), came(0, r(9), 3, 3, 3), upTo(0, pair(2, 0)),
			came(1, r("a"), 0, 0, 5), came(1, r("b"), 2, 0, 1), upTo(1, pair(2, 0)))},
		{times(pair(1, 0)), notes(
			came(0, r(8), 1, 0, 6), came(0, r(8), 2, 0, 7), came(0, r(8), 2, 1, -7), came(0, r(9), 3, 3, 3), upTo(0, pair(2, 0)),
			came(1, r("a"), 1, 0, 5), came(1, r("b"), 2, 0, 1), upTo(1, pair(2, 0)))},
		{times(pair(2, 0)), notes(
			came(0, r(8), 2, 0, 13), came(0, r(8), 2, 1, -7), came(0, r(9), 3, 3, 3), upTo(0, pair(2, 0)),
			came(1, r("a"), 2, 0, 5), came(1, r("b"), 2, 0, 1), upTo(1, pair(2, 0)))},
		{times(pair(0, 4), pair(2, 0)), notes(
			came(0, r(7), 0, 0, 1), came(0, r(7), 1, 0, -1), came(0, r(8), 1, 0, 6), came(0, r(8), 2, 0, 7), came(0, r(8), 2, 1, -7), came(0, r(9), 3, 3, 3), upTo(0, pair(2, 0)),
			came(1, r("a"), 0, 0, 5), came(1, r("b"), 2, 0, 1), upTo(1, pair(2, 0)))},
	} {
		m, e := change.Tidy(2, l, c.since)
		if e != api.OK || !sameAll(m, c.want) {
			t.Errorf("Tidy to %v: %s, %d, want %s", c.since, brief(m), e, brief(c.want))
		}
		holdTidy(t, 2, l, c.since)
		holdSame(t, 2, l, m, c.since, grid(5)...)
	}
}

func TestTidyAtTheLastFrontier(t *testing.T) { // P27.4: since is just LessEq each last frontier
	l := notes(came(0, r(1), 0, 0, 1), upTo(0, pair(0, 4), pair(3, 1)), upTo(1, pair(3, 3)), came(1, r(2), 4, 4, 1), upTo(2))
	for epoch := range 5 {
		for round := range 5 {
			for _, other := range []int{-1, 0, 1, 2, 3, 4} {
				since := times(pair(epoch, round))
				if other >= 0 {
					since = append(since, pair(4, other))
				}
				if m, e := holdTidy(t, 3, l, since); e == api.OK {
					holdSame(t, 3, l, m, since, grid(6)...)
				}
			}
		}
	}
	for _, since := range [][]api.Time{{pair(0, 1)}, {pair(0, 4), pair(3, 1)}, {pair(0, 3), pair(1, 1)}} {
		if m, e := holdTidy(t, 3, l, since); e != api.OK || len(m) != 5 {
			t.Errorf("Tidy to %v: %s, %d", since, brief(m), e)
		}
	}
	for _, since := range [][]api.Time{{pair(0, 2)}, {pair(0, 4)}, {pair(3, 0)}, {pair(0, 5), pair(3, 1)}, {pair(1<<40, 1<<40)}} {
		if m, e := holdTidy(t, 3, l, since); e != api.ErrTime || len(m) != 0 {
			t.Errorf("Tidy to %v: %s, %d", since, brief(m), e)
		}
	}
}

func TestTidyBehindEmptyFrontiers(t *testing.T) { // P27.4: each since is LessEq an empty one
	l := notes(came(0, r(1), 0, 0, 1), came(0, r(1), 9, 0, -1), upTo(0))
	for _, since := range [][]api.Time{{pair(0, 0)}, {pair(8, 0)}, {pair(9, 0)}, {pair(1<<40, 1<<40)}, rising(1024)} {
		m, e := holdTidy(t, 1, l, since)
		if e != api.OK || !same(m[len(m)-1], upTo(0)) {
			t.Errorf("Tidy to %v: %s, %d", since, brief(m), e)
		}
		holdSame(t, 1, l, m, since, grid(11)...)
	}
	if m, e := change.Tidy(1, l, times(pair(9, 0))); e != api.OK || len(m) != 1 {
		t.Errorf("Tidy: %s, %d", brief(m), e)
	}
}

func TestTidiedIsTidy(t *testing.T) { // P27.4, P27.5: tidied again it is the same, and its bytes are no more than the log's
	l := and(sample(), upTo(3, pair(1, 1)))
	since := times(pair(0, 0))
	m, e := holdTidy(t, 4, l, since)
	if e != api.OK {
		t.Fatal(e)
	}
	again, e := holdTidy(t, 4, m, since)
	if e != api.OK || !sameAll(again, m) {
		t.Errorf("again: %s, %d", brief(again), e)
	}
	b, _ := change.Encode(m)
	if back, e, _ := change.Decode(b); e != api.OK || !sameAll(back, m) || !bytes.Equal(b, askedLog(m)) {
		t.Errorf("decoded: %s, %d", brief(back), e)
	}
}

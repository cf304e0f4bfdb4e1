package view_test

import (
	"slices"
	"testing"

	"runnel/api"
)

// chance tells numbers that follow from one alone: the same ones whenever it is made.
type chance uint64

func (x *chance) below(bound int) int {
	*x = *x*6364136223846793005 + 1442695040888963407
	return int(uint64(*x)>>33) % bound
}

// row is one of a few, with anything in the fields that play no part: key values, and some more.
func (x *chance) row(key int) api.Row {
	row := make(api.Row, min(key+x.below(3), api.MaxCols))
	for i := range row {
		row[i] = api.Val{Kind: x.below(2), Int: x.below(2), Str: "abc"[:x.below(2)]}
		if i > 1 && i < key {
			row[i] = api.Val{Int: i}
		}
	}
	return row
}

// behind is a time in advance of a frontier.
func (x *chance) behind(f []api.Time) api.Time {
	u := f[x.below(len(f))]
	return at(min(u.Epoch+x.below(3), last), min(u.Round+x.below(3), last))
}

// later is a frontier that another one is LessEq.
func (x *chance) later(f []api.Time) []api.Time {
	if len(f) == 0 || x.below(30) == 0 {
		return nil
	}
	if x.below(10) == 0 {
		return slices.Clone(f)
	}
	var l []api.Time
	for range 1 + x.below(3) {
		l = append(l, x.behind(f))
	}
	return least(l)
}

// fronts are the frontiers of outs as a log is drawn.
type fronts [][]api.Time

func begunFronts(outs int) fronts {
	f := make(fronts, outs)
	for out := range f {
		f[out] = times(at(0, 0))
	}
	return f
}

// note is one that may come, of any out.
func (x *chance) note(f fronts, key int) api.Note {
	out := x.below(len(f))
	n := api.Note{Out: out}
	if len(f[out]) > 0 && x.below(4) > 0 {
		n.IsUp = true
		n.Up = api.Up{Row: x.row(key), Time: x.behind(f[out]), Diff: x.below(7) - 3}
	} else {
		f[out] = x.later(f[out])
		n.Front = f[out]
	}
	if x.below(8) == 0 {
		n = odd(n)
	}
	return n
}

// log is one of so many outs, changes and frontiers mixed.
func (x *chance) log(outs, key, count int) []api.Note {
	f := begunFronts(outs)
	var l []api.Note
	for range count {
		l = append(l, x.note(f, key))
	}
	return l
}

// maybe is a note of any out, that there is or not, at any time near the beginning.
func (x *chance) maybe(outs, key int) api.Note {
	n := api.Note{Out: x.below(outs+2) - 1, IsUp: x.below(2) == 0}
	n.Up = api.Up{Row: x.row(max(0, key-x.below(2))), Time: at(x.below(9)-1, x.below(9)-1), Diff: x.below(5) - 2}
	for range x.below(4) {
		n.Front = append(n.Front, at(x.below(9)-1, x.below(9)-1))
	}
	if x.below(3) > 0 {
		n.Front = least(n.Front)
	}
	return n
}

// anyFront is a frontier near another one, one that goes back, or none.
func (x *chance) anyFront(f []api.Time) []api.Time {
	switch x.below(6) {
	case 0:
		return least(times(at(x.below(5), x.below(5)), at(x.below(5), x.below(5))))
	case 1:
		return times(at(x.below(6)-1, x.below(4)), at(x.below(4), x.below(6)-1))
	}
	return x.later(f)
}

// someTimes are drawn ones near the beginning, and some at frontiers of a view.
func (x *chance) someTimes(w *watched) []api.Time {
	l := slices.Clone(w.since[:min(2, len(w.since))])
	for range 4 {
		l = append(l, at(x.below(10)-1, x.below(10)-1))
	}
	for out := range w.outs {
		f, _ := w.v.Front(out)
		for _, u := range f[:min(1, len(f))] {
			l = append(l, u, at(u.Epoch-1, u.Round+1))
		}
	}
	return l
}

var drawnKeys = []int{0, 1, 2, 16}

func TestDrawnLogs(t *testing.T) { // P32.1 to P32.4: note by note, with Forget and Work between them
	x := chance(32)
	seen := map[api.Errno]int{}
	for i := range 130 {
		outs, key := i%8+1, drawnKeys[i/8%len(drawnKeys)]
		w := begun(t, outs, key)
		f := begunFronts(outs)
		for range x.below(70) {
			switch x.below(12) {
			case 0:
				seen[w.forget(x.anyFront(w.since)...)]++
			case 1:
				_, e := w.work(x.below(12) - 2)
				seen[e]++
			case 2:
				e := w.apply(x.maybe(outs, key))
				seen[e]++
				for out := range f { // it may have been taken
					f[out], _ = w.v.Front(out)
				}
			case 3:
				w.hold(x.someTimes(w)...)
			default:
				w.good(x.note(f, key))
			}
		}
		w.hold(append(grid(4), x.someTimes(w)...)...)
	}
	if seen[api.OK] < 200 || seen[api.ErrTime] < 60 || seen[api.ErrRange] < 60 || seen[api.ErrForm] < 30 {
		t.Error(seen)
	}
}

func TestLongDrawnLogs(t *testing.T) { // P32.1 to P32.4
	x := chance(5)
	for _, outs := range []int{1, 3, 8} {
		w := begun(t, outs, 1)
		for i, n := range x.log(outs, 1, 400) {
			w.good(n)
			if i%50 == 49 {
				w.hold(x.someTimes(w)...)
				w.work(x.below(60))
			}
			if i%150 == 149 {
				w.forget(x.later(w.since)...)
			}
		}
		w.hold(x.someTimes(w)...)
		w.work(1 << 20)
		w.hold(x.someTimes(w)...)
	}
}

func TestDrawnLogsOfGreatSums(t *testing.T) { // P32.1 to P32.3: spines that break; what is told is what such spines tell
	x := chance(77)
	seen := map[string]int{}
	for i := range 250 {
		outs := i%3 + 1
		w := greatOne(t, outs, i%2)
		for range x.below(40) {
			switch x.below(8) {
			case 0:
				w.forget(x.later(w.since)...)
			case 1:
				if _, e := w.work(x.below(12)); e == api.ErrOver {
					seen["work"]++
				}
			case 2:
				out := x.below(outs)
				f, _ := w.v.Front(out)
				w.apply(upTo(out, x.later(f)...))
			default:
				diff := []int{high, low, high - 1, 1, -1, 2}[x.below(6)]
				if e := w.apply(came(x.below(outs), r(x.below(2), x.below(2)), x.below(3), x.below(3), diff)); e == api.ErrOver {
					seen["apply"]++
				}
			}
		}
		w.hold(grid(3)...)
		for out := range outs {
			if e := w.apply(upTo(out)); e != api.OK {
				t.Fatal(e)
			}
			for _, when := range w.since[:min(len(w.since), 1)] {
				if w.holdAt(out, when) == api.ErrOver {
					seen["at"]++
				}
				if w.holdBetween(out, when, at(4, 4)) == api.ErrOver {
					seen["between"]++
				}
				for _, key := range w.keys(out) {
					if w.holdGet(out, key, at(4, 4)) == api.ErrOver {
						seen["get"]++
					}
				}
			}
		}
		w.hold(grid(3)...)
	}
	for _, call := range []string{"work", "apply", "at", "between", "get"} {
		if seen[call] < 20 {
			t.Error(seen)
		}
	}
}

// ones tells bytes one by one, and noughts behind the last.
type ones struct{ b []byte }

func (x *ones) next(below int) int {
	if len(x.b) == 0 {
		return 0
	}
	n := int(x.b[0]) % below
	x.b = x.b[1:]
	return n
}

func (x *ones) time() api.Time { return at(x.next(6)-1, x.next(6)-1) }

func (x *ones) front() []api.Time {
	var f []api.Time
	for range x.next(4) {
		f = append(f, x.time())
	}
	if x.next(4) > 0 {
		f = least(f)
	}
	return f
}

func FuzzViews(f *testing.F) { // P32.1 to P32.4: calls behind which a view tells something else than the chapter's words, reckoned in another way, say
	f.Add([]byte{})
	x := chance(41)
	for range 30 {
		var b []byte
		for range 200 {
			b = append(b, byte(x.below(256)))
		}
		f.Add(b)
	}
	f.Fuzz(func(t *testing.T, b []byte) {
		x := &ones{b[:min(len(b), 400)]}
		w := greatOne(t, 1+x.next(3), x.next(3))
		for len(x.b) > 0 {
			switch x.next(8) {
			case 0:
				w.forget(x.front()...)
			case 1:
				w.work(x.next(16) - 2)
			case 2, 3:
				w.apply(upTo(x.next(4)-1, x.front()...))
			default:
				var row api.Row
				for range x.next(4) {
					row = append(row, api.Val{Kind: x.next(3), Int: x.next(2)})
				}
				when := x.time()
				w.apply(came(x.next(4)-1, row, when.Epoch, when.Round, []int{1, -1, 2, -2, 0, high, low}[x.next(7)]))
			}
		}
		w.hold(grid(4)...)
	})
}

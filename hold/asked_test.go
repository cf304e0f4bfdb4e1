package hold_test

import (
	"fmt"
	"slices"
	"testing"

	"runnel/api"
	"runnel/front"
	"runnel/hold"
	"runnel/moment"
	"runnel/row"
	"runnel/zset"
)

// grid are all times with numbers below a bound.
func grid(bound int) []api.Time {
	var l []api.Time
	for epoch := range bound {
		for round := range bound {
			l = append(l, at(epoch, round))
		}
	}
	return l
}

func TestFrontiers(t *testing.T) { // P21.1: of no time, of one and of several; of which a time is in advance by one alone
	for _, k := range []struct {
		name string
		f    []api.Time
		want []api.Time // of a grid of nine, those that are not in advance
	}{
		{"nil", nil, grid(3)},
		{"no time", []api.Time{}, grid(3)},
		{"(0, 0)", times(at(0, 0)), nil},
		{"(0, 1)", times(at(0, 1)), times(at(0, 0), at(1, 0), at(2, 0))},
		{"(1, 0)", times(at(1, 0)), times(at(0, 0), at(0, 1), at(0, 2))},
		{"(1, 1)", times(at(1, 1)), times(at(0, 0), at(0, 1), at(0, 2), at(1, 0), at(2, 0))},
		{"(2, 2)", times(at(2, 2)), grid(3)[:8]},
		{"(3, 0)", times(at(3, 0)), grid(3)},
		{"(0, 3)", times(at(0, 3)), grid(3)},
		{"(0, 2), (2, 0)", times(at(0, 2), at(2, 0)), times(at(0, 0), at(0, 1), at(1, 0), at(1, 1))},
		{"(0, 1), (1, 0)", times(at(0, 1), at(1, 0)), times(at(0, 0))},
		{"(0, 2), (1, 1), (2, 0)", times(at(0, 2), at(1, 1), at(2, 0)), times(at(0, 0), at(0, 1), at(1, 0))},
		{"(1, 2), (2, 1)", times(at(1, 2), at(2, 1)), times(at(0, 0), at(0, 1), at(0, 2), at(1, 0), at(1, 1), at(2, 0))},
		{"no order", times(at(2, 0), at(0, 2)), times(at(0, 0), at(0, 1), at(1, 0), at(1, 1))},
		{"one twice", times(at(1, 1), at(1, 1)), times(at(0, 0), at(0, 1), at(0, 2), at(1, 0), at(2, 0))},
		{"one LessEq another", times(at(1, 1), at(2, 2), at(1, 2)), times(at(0, 0), at(0, 1), at(0, 2), at(1, 0), at(2, 0))},
		{"one LessEq another, which stands ahead", times(at(2, 2), at(1, 1)), times(at(0, 0), at(0, 1), at(0, 2), at(1, 0), at(2, 0))},
		{"none below 0", times(at(-1, -1)), nil},
		{"the least", times(at(low, low)), nil},
		{"the greatest", times(at(high, high)), grid(3)},
		{"beyond MaxTime", times(at(0, api.MaxTime+1), at(api.MaxTime+1, 0)), grid(3)},
		{"below 0 in one way", times(at(-5, 2)), times(at(0, 0), at(0, 1), at(1, 0), at(1, 1), at(2, 0), at(2, 1))},
	} {
		w := watch(t, k.name)
		var want []api.Up
		for _, time := range k.want {
			want = append(want, up(r(1), time.Epoch, time.Round, 1), up(r(2), time.Epoch, time.Round, 2))
		}
		for _, time := range shuffled(grid(3), 5) {
			w.add(up(r(2), time.Epoch, time.Round, 2), up(r(1), time.Epoch, time.Round, 1))
		}
		w.tells(k.f, want...)
		if w.h.Len() != 2*(9-len(k.want)) {
			t.Fatalf("%s: Len %d", k.name, w.h.Len())
		}
		w.all()
	}
}

func TestTimesRoundAFrontier(t *testing.T) { // P21.1: a time of f itself, and those just ahead of it, beside it and behind it, each by itself
	for _, f := range [][]api.Time{times(at(5, 5)), times(at(3, 7), at(5, 5), at(7, 3)), times(at(5, 5), at(9, 0)), times(at(0, 9), at(5, 5))} {
		for _, k := range []struct {
			time api.Time
			told bool
		}{
			{at(5, 5), false}, {at(5, 4), true}, {at(4, 5), true}, {at(4, 4), true}, {at(5, 6), false}, {at(6, 5), false}, {at(6, 6), false}, {at(4, 6), true}, {at(6, 4), true},
		} {
			w := watch(t, fmt.Sprint(k.time, " of ", f))
			u := up(r("x"), k.time.Epoch, k.time.Round, 1)
			w.add(u)
			if k.told {
				w.tells(f, u)
				continue
			}
			w.tells(f)
			w.all()
		}
	}
}

func TestLongFrontier(t *testing.T) { // P21.1: as many times as may be, and more
	for _, length := range []int{api.MaxFront, 2 * api.MaxFront} {
		var f []api.Time
		w := watch(t, fmt.Sprint(length, " times"))
		var want []api.Up
		for i := range length {
			f = append(f, at(2*i, 2*(length-i)))
			if i%100 == 7 {
				ahead := up(r(i), 2*i+1, 2*(length-i)-1, 1)
				want = append(want, ahead)
				w.add(up(r(i), 2*i, 2*(length-i), 1), ahead, up(r(i), 2*i+1, 2*(length-i), 1))
			}
		}
		w.tells(f, want...)
		w.all()
	}
}

func TestAllIsTold(t *testing.T) { // P21.1: Next of nil and of no time: one after the other, until nothing is held
	for _, f := range [][]api.Time{nil, {}, times(at(0, 0))[:0]} {
		w := watch(t, fmt.Sprint(f == nil))
		var want []api.Up
		for i, time := range grid(4) {
			want = append(want, up(r(time.Epoch), time.Epoch, time.Round, i+1), up(r(time.Epoch, "b"), time.Epoch, time.Round, -i-1))
		}
		w.add(shuffled(want, 7)...)
		w.tells(f, want...)
		if w.h.Len() != 0 {
			t.Fatalf("Len %d", w.h.Len())
		}
	}
}

func TestNextOfTheFirstTime(t *testing.T) { // P21.1: every time that may be is in advance of (0, 0)
	w := watch(t, "(0, 0)")
	for _, time := range append(grid(3), at(api.MaxTime, 0), at(0, api.MaxTime), at(api.MaxTime, api.MaxTime)) {
		w.add(up(r(1), time.Epoch, time.Round, 1))
		w.tells(times(at(0, 0)))
	}
	w.add(up(r(1), -1, 0, 1), up(r(1), 0, -1, 2), up(r(1), low, high, 3))
	w.tells(times(at(0, 0)), up(r(1), low, high, 3), up(r(1), -1, 0, 1), up(r(1), 0, -1, 2))
	w.all()
}

func TestLaterOnesAreToldFirst(t *testing.T) { // P21.1: the first ones in order are in advance, a later one is not
	w := watch(t, "later")
	w.add(up(r(1), 0, 5, 1), up(r(2), 0, 5, 2), up(r(1), 0, 6, 3), up(r(1), 1, 7, 4), up(r(3), 2, 4, 5), up(r(2), 2, 4, 6), up(r(1), 2, 5, 7), up(r(1), 3, 0, 8), up(r(1), 9, 1, 9))
	w.tells(times(at(0, 5)), up(r(2), 2, 4, 6), up(r(3), 2, 4, 5), up(r(1), 3, 0, 8), up(r(1), 9, 1, 9))
	w.tells(times(at(0, 6), at(1, 0)), up(r(1), 0, 5, 1), up(r(2), 0, 5, 2))
	w.add(up(r(0), 1, 0, 1))
	w.tells(times(at(0, 1)), up(r(0), 1, 0, 1))
	w.tells(times(at(2, 0)), up(r(1), 0, 6, 3), up(r(1), 1, 7, 4))
	w.tells(times(at(2, 0)))
	w.all()
}

func TestLower(t *testing.T) { // P21.1: of none, of one time several times, of times of which one is LessEq to another or none is, and of some that may not be
	for _, k := range []struct{ times, want []api.Time }{
		{nil, nil},
		{times(at(0, 0)), times(at(0, 0))},
		{times(at(3, 4), at(3, 4), at(3, 4)), times(at(3, 4))},
		{times(at(2, 0), at(0, 2), at(2, 2)), times(at(0, 2), at(2, 0))},
		{times(at(2, 2), at(1, 1)), times(at(1, 1))},
		{times(at(5, 5), at(4, 4), at(6, 3), at(4, 5)), times(at(4, 4), at(6, 3))},
		{times(at(3, 0), at(2, 1), at(1, 2), at(0, 3)), times(at(0, 3), at(1, 2), at(2, 1), at(3, 0))},
		{times(at(0, 1), at(0, 2), at(0, 0)), times(at(0, 0))},
		{times(at(1, 0), at(2, 0), at(0, 0)), times(at(0, 0))},
		{times(at(1, 5), at(1, 3), at(2, 4), at(2, 2), at(3, 3)), times(at(1, 3), at(2, 2))},
		{times(at(api.MaxTime, 0), at(0, api.MaxTime)), times(at(0, api.MaxTime), at(api.MaxTime, 0))},
		{times(at(-1, 2), at(0, 0), at(1, -1)), times(at(-1, 2), at(0, 0), at(1, -1))},
		{times(at(high, low), at(low, high), at(0, 0), at(high, high)), times(at(low, high), at(0, 0), at(high, low))},
		{times(at(low, low), at(high, low), at(low, high)), times(at(low, low))},
	} {
		h := hold.New()
		for i, time := range k.times {
			h.Add(up(r(i), time.Epoch, time.Round, 1))
		}
		if got := h.Lower(); !slices.Equal(got, k.want) || h.Len() != len(k.times) {
			t.Errorf("Lower of %v: %v, want %v; Len %d", k.times, got, k.want, h.Len())
		}
	}
}

func TestLowerFollows(t *testing.T) { // P21.1: when what is held comes to 0, and when it is told
	w := watch(t, "lower")
	lower := func(want ...api.Time) {
		t.Helper()
		if got := w.h.Lower(); !slices.Equal(got, want) {
			t.Fatalf("Lower is %v, want %v", got, want)
		}
	}
	w.add(up(r(1), 3, 0, 1), up(r(1), 1, 1, 1), up(r(2), 1, 1, 1), up(r(1), 0, 4, 1), up(r(1), 2, 2, 1))
	lower(at(0, 4), at(1, 1), at(3, 0))
	w.add(up(r(1), 1, 1, -1))
	lower(at(0, 4), at(1, 1), at(3, 0))
	w.add(up(r(2), 1, 1, -1))
	lower(at(0, 4), at(2, 2), at(3, 0))
	w.tells(times(at(1, 0)), up(r(1), 0, 4, 1))
	lower(at(2, 2), at(3, 0))
	w.add(up(r(9), 0, 0, 1), up(r(9), 0, 0, -1))
	lower(at(2, 2), at(3, 0))
	w.tells(times(at(2, 1)), up(r(1), 3, 0, 1))
	lower(at(2, 2))
	w.all()
	lower()
}

func TestTimesThatMayNotBe(t *testing.T) { // P21.1: nothing is asked of times; what the chapter says holds of them, too
	var l []api.Time
	numbers := []int{low, low + 1, -1 << 32, -1, 0, 1, 1 << 32, api.MaxTime, api.MaxTime + 1, high - 1, high}
	for _, epoch := range numbers {
		for _, round := range numbers {
			l = append(l, at(epoch, round))
		}
	}
	for i, f := range [][]api.Time{nil, times(at(0, 0)), times(at(-1, 1<<32)), times(at(high, high)), times(at(low, low)), times(at(high, low), at(low, high)), times(at(high, 0), at(0, -1), at(-1, 0))} {
		w := watch(t, fmt.Sprint("number ", i))
		var want []api.Up
		for j, time := range l {
			u := up(r(j%3), time.Epoch, time.Round, j+1)
			if !advanced(f, time) {
				want = append(want, u)
			}
		}
		for j := range l {
			j = j * 7 % len(l)
			if e := w.addOnly(up(r(j%3), l[j].Epoch, l[j].Round, j+1)); e != api.OK {
				t.Fatalf("error %d", int(e))
			}
		}
		w.hold("all are added")
		w.tells(f, want...)
		w.all()
	}
}

// chance tells numbers that follow from one alone: the same ones whenever it is made.
type chance uint64

func (x *chance) below(bound int) int {
	*x = *x*6364136223846793005 + 1442695040888963407
	return int(uint64(*x)>>33) % bound
}

// number is one of few; wild, it is now and then as great as may be.
func (x *chance) number(bound int, wild bool) int {
	if wild && x.below(30) == 0 {
		return []int{low, high, low + 1, api.MaxTime, api.MaxTime + 1, -1}[x.below(6)]
	}
	return x.below(bound)
}

func (x *chance) time(wild bool) api.Time { return at(x.number(5, wild), x.number(5, wild)) }

// row is one of few, with something or other in the field that plays no part.
func (x *chance) row(wild bool) api.Row {
	rows := []api.Row{nil, r(0), r(0, 0), r(1), r("a"), r("a", 1)}
	if wild {
		rows = kindsOfRows()
	}
	l := slices.Clone(rows[x.below(len(rows))])
	for i := range l {
		switch l[i].Kind {
		case api.KindInt:
			l[i].Str = []string{"", "beside"}[x.below(2)]
		case api.KindStr:
			l[i].Int = x.below(2)
		}
	}
	return l
}

// change is one of few, so that many have one row and time, and come to 0 together.
func (x *chance) change(wild bool) api.Up {
	diff := x.below(5) - 2
	if wild && x.below(6) == 0 {
		diff = []int{low, high, low + 1, high - 1, 1 << 62, -1 << 62}[x.below(6)]
	}
	return api.Up{Row: x.row(wild), Time: x.time(wild), Diff: diff}
}

// front is no time, one, or several, as a frontier or, wild, in any order.
func (x *chance) front(wild bool) []api.Time {
	var l []api.Time
	for range x.below(4) {
		l = append(l, x.time(wild))
	}
	if wild && x.below(3) == 0 {
		return l
	}
	return front.New(l)
}

// run does calls that are drawn, Add and Next in turn. Of the calls, more add for a while, then more take.
func run(t *testing.T, seed uint64, calls int, wild bool) *watched {
	t.Helper()
	x := chance(seed)
	w := watch(t, fmt.Sprint("seed ", seed))
	for i := range calls {
		adds := 3
		if i/40%2 == 0 {
			adds = 8
		}
		if x.below(10) < adds {
			u := x.change(wild)
			w.addOnly(u)
			w.hold("Add of " + told(u))
			continue
		}
		f := x.front(wild)
		w.nextOnly(f)
		w.hold("Next of " + told(f))
	}
	return w
}

func TestCallsThatAreDrawn(t *testing.T) { // P21.1: held against a plain list in no order behind each call
	for _, wild := range []bool{false, true} {
		most, taken := 0, 0
		for i := range 60 {
			w := run(t, uint64(i+1), 400, wild)
			most, taken = max(most, w.most), taken+len(w.next)
			w.all()
		}
		if most < 30 || taken < 1000 {
			t.Errorf("wild %v: at most %d were held at a time, and %d were told", wild, most, taken)
		}
	}
}

// holdTogether asks that what is held and what was told, together, is what was added, at each time.
func (w *watched) holdTogether(l []api.Time) {
	w.t.Helper()
	together := slices.Concat(w.next, w.h.Ups())
	for _, time := range l {
		got, e := zset.At(together, time)
		want, wantErr := zset.At(w.added, time)
		if e != api.OK || wantErr != api.OK || !slices.EqualFunc(got, want, func(a, b api.Count) bool { return row.Same(a.Row, b.Row) && a.Diff == b.Diff }) {
			w.t.Fatalf("%s: at %v there is %s, %d; added was %s, %d", w.name, time, told(got), int(e), told(want), int(wantErr))
		}
	}
}

func TestTogether(t *testing.T) { // P21.2: over long rows of calls, at many times
	l := append(grid(6), at(-1, -1), at(-1, 9), at(9, -1), at(api.MaxTime, 2), at(high, high))
	for i := range 4 {
		x := chance(100 + i)
		w := watch(t, fmt.Sprint("seed ", 100+i))
		for call := range 4000 {
			if x.below(10) < 7 {
				w.addOnly(x.change(false))
			} else {
				w.nextOnly(x.front(false))
			}
			if call%200 == 0 {
				w.holdTogether(l)
			}
		}
		w.holdTogether(l)
		if len(w.next) < 500 || len(w.list) < 10 {
			t.Errorf("%d were told, %d are held", len(w.next), len(w.list))
		}
		w.all()
		w.holdTogether(l)
	}
}

func TestFrontiersThatGoOn(t *testing.T) { // P21.2: where changes come in advance of a frontier that goes on, each row and time is told once, and never 0
	for i := range 20 {
		x := chance(200 + i)
		w := watch(t, fmt.Sprint("seed ", 200+i))
		f := times(at(0, 0))
		for len(f) > 0 && len(w.added) < 2000 {
			for range x.below(30) {
				u := x.change(false)
				u.Time = moment.Join(u.Time, f[x.below(len(f))])
				w.addOnly(u)
			}
			next := times(x.time(false), at(f[0].Epoch+1, f[0].Round), at(f[0].Epoch, f[0].Round+x.below(2)))
			f = front.Join(f, next[x.below(2):])
			for w.nextOnly(f) {
			}
			w.hold("Next of " + told(f))
		}
		w.all()
		w.holdTogether(grid(9))
		slices.SortFunc(w.next, order)
		for j, u := range w.next {
			if u.Diff == 0 || j > 0 && order(w.next[j-1], u) == 0 {
				t.Fatalf("%v is told behind %v", u, w.next[max(0, j-1)])
			}
		}
	}
}

func TestMany(t *testing.T) { // P21.1: many changes, added upwards, downwards and across
	const count = 6000
	for _, step := range []int{1, count - 1, 1237} {
		h := hold.New()
		for i := range count {
			i = i * step % count
			if e := h.Add(up(r(i%10), i/100, i/10%10, i+1)); e != api.OK {
				t.Fatalf("error %d", int(e))
			}
		}
		for i := 0; i < count; i += 2 {
			if e := h.Add(up(r(i%10), i/100, i/10%10, -i-1)); e != api.OK {
				t.Fatalf("error %d", int(e))
			}
		}
		if l := h.Ups(); h.Len() != count/2 || len(l) != count/2 || !slices.IsSortedFunc(l, order) {
			t.Fatalf("Len %d, and Ups are %d", h.Len(), len(l))
		}
		for i := 1; i < count; i += 2 {
			if u, ok := h.Next(times(at(count/100, 0))); !ok || !same(u, up(r(i%10), i/100, i/10%10, i+1)) {
				t.Fatalf("%v, %v, want number %d", u, ok, i)
			}
		}
		if u, ok := h.Next(nil); ok || h.Len() != 0 {
			t.Fatalf("%v, Len %d", u, h.Len())
		}
	}
}

func TestAnswersHangOnTheHoldsCallsAlone(t *testing.T) { // from arguments alone: holds beside one another know nothing of each other
	a, b, c := watch(t, "one"), watch(t, "another"), watch(t, "a third")
	x, y, z := chance(5), chance(5), chance(6)
	call := func(w *watched, x *chance) {
		if x.below(3) > 0 {
			w.addOnly(x.change(true))
		} else {
			w.nextOnly(x.front(true))
		}
		w.hold("drawn")
	}
	for range 300 {
		call(a, &x)
		call(b, &z)
	}
	for range 300 {
		call(c, &y)
	}
	if !slices.EqualFunc(a.h.Ups(), c.h.Ups(), same) || !slices.EqualFunc(a.next, c.next, same) {
		t.Fatal("the same calls are drawn, and the holds differ")
	}
	a.hold("at the end")
	b.hold("at the end")
}

func TestAskingChangesNothing(t *testing.T) { // P21.1: Len, Lower, Ups, and a Next that tells none
	w := watch(t, "asked")
	for _, time := range grid(3) {
		w.add(up(r(1), 1+time.Epoch, 1+time.Round, 1))
	}
	for range 50 {
		w.h.Len()
		w.h.Lower()
		w.h.Ups()
		w.tells(times(at(1, 1)))
	}
	w.all()
}

func FuzzHolds(f *testing.F) {
	f.Add(uint64(1), uint8(30), false)
	f.Add(uint64(2), uint8(90), true)
	f.Add(uint64(3), uint8(255), true)
	f.Fuzz(func(t *testing.T, seed uint64, calls uint8, wild bool) {
		w := run(t, seed, int(calls), wild)
		if !wild {
			w.holdTogether(grid(5))
		}
		w.all()
	})
}

package join_test

import (
	"fmt"
	"slices"
	"testing"

	"runnel/api"
	"runnel/deno"
	"runnel/front"
	"runnel/join"
	"runnel/moment"
	"runnel/row"
	"runnel/spine"
	"runnel/zset"
)

// sidesThatAreNone are numbers that are neither 0 nor 1.
var sidesThatAreNone = []int{low, low + 1, -1 << 32, -2, -1, 2, 3, 1 << 32, high - 1, high}

// grid are all times with numbers below a bound.
func grid(bound int) []api.Time {
	var l []api.Time
	for epoch := range bound {
		for round := range bound {
			l = append(l, at(epoch, round))
		}
	}
	return l
}

// busy is a join of which both sides have some, something waits and something is to be done.
func busy(t *testing.T, name string) *watched {
	t.Helper()
	w := watch(t, name, 1)
	w.accept(0, up(r(1, "a"), 0, 0, 1), up(r(2, "b"), 1, 0, 2), up(r(1, "c"), 0, 1, 3))
	w.accept(1, up(r(1, "x"), 2, 0, 1), up(r(3, "y"), 0, 0, 1))
	w.advance(0, at(1, 2), at(3, 1))
	w.advance(1, at(0, 4), at(2, 2))
	w.accept(0, up(r(1, "d"), 1, 2, 1))
	if w.j.Len() != 3 || w.j.Still() {
		t.Fatalf("Len %d, Still %v", w.j.Len(), w.j.Still())
	}
	return w
}

// goesOn asks that a join is as it was: what waits, what it still takes, what is done with fuel.
func (w *watched) goesOn() {
	w.t.Helper()
	w.holdWaiting("behind the errors")
	w.nextOnly()
	w.hold("Next")
	w.accept(0, up(r(1, "d"), 1, 2, 1), up(r(3, "e"), 3, 1, 1))
	w.accept(1, up(r(1, "z"), 0, 4, 1), up(r(2, "z"), 2, 2, -1))
	w.work(3)
	w.work(1000)
	w.advance(0, at(1, 3), at(3, 1))
	w.advance(1, at(2, 4))
	w.work(1000)
	w.accept(0, up(r(1, "f"), 3, 1, 1))
	w.all()
}

func TestSidesThatAreNone(t *testing.T) { // P22.1 to P22.3: ErrArg, and nil; nothing has changed
	w := busy(t, "sides")
	for _, side := range sidesThatAreNone {
		w.refuses(side, up(r(1, "a"), 5, 5, 1), api.ErrArg)
		w.stays(side, times(at(5, 5)), api.ErrArg)
		if w.j.Side(side) != nil {
			t.Fatalf("Side(%d) is not nil", side)
		}
		w.hold(fmt.Sprintf("Side(%d)", side))
	}
	w.goesOn()
}

func TestSides(t *testing.T) { // P22.3: that spine itself, and always the same one
	w := busy(t, "sides")
	zero, one := w.j.Side(0), w.j.Side(1)
	if zero == nil || one == nil || zero == one {
		t.Fatal("they are not two spines")
	}
	w.goesOn()
	if w.j.Side(0) != zero || w.j.Side(1) != one {
		t.Fatal("they are others now")
	}
	if zero.Total() != len(w.lists[0]) || one.Total() != len(w.lists[1]) {
		t.Fatalf("Total %d, %d", zero.Total(), one.Total())
	}
}

func TestShortRows(t *testing.T) { // P22.2: rows that are shorter than the key, none: ErrRange, and nothing has changed
	w := busy(t, "short")
	for side := range 2 {
		for _, x := range []api.Row{nil, {}, r(1)[:0]} {
			w.refuses(side, up(x, 5, 5, 1), api.ErrRange)
		}
	}
	w.goesOn()
	for key := range api.MaxCols + 1 {
		w := watch(t, fmt.Sprint("key ", key), key)
		for length := range key + 3 {
			want := api.OK
			if length < key {
				want = api.ErrRange
			}
			w.refuses(length%2, up(wide(length, 1), 0, 0, 1), want)
			w.refuses(1-length%2, up(wide(length, 1), 0, 0, 1), want)
		}
		w.all()
	}
}

func TestTimesThatMayNotBe(t *testing.T) { // P22.2: ErrTime, and nothing has changed
	w := busy(t, "times")
	for side := range 2 {
		for _, bad := range times(at(-1, 5), at(5, -1), at(-1, -1), at(low, 5), at(5, low), at(api.MaxTime+1, 5), at(5, api.MaxTime+1), at(high, high), at(high, low), at(api.MaxTime+1, api.MaxTime+1)) {
			w.refuses(side, up(r(1, "a"), bad.Epoch, bad.Round, 1), api.ErrTime)
		}
		for _, early := range times(at(0, 0), at(0, 3), at(2, 1), at(1, 1)) {
			w.refuses(side, up(r(1, "a"), early.Epoch, early.Round, 1), api.ErrTime)
		}
	}
	w.goesOn()
	w = watch(t, "the greatest times", 0)
	w.accept(0, up(r(1), api.MaxTime, 0, 1))
	w.accept(1, up(r(2), 0, api.MaxTime, 1), up(r(3), api.MaxTime, api.MaxTime, 1))
	w.advance(0, at(api.MaxTime, api.MaxTime))
	w.refuses(0, up(r(1), api.MaxTime, api.MaxTime-1, 1), api.ErrTime)
	w.accept(0, up(r(4), api.MaxTime, api.MaxTime, 1))
	w.work(100)
	w.accept(0, up(r(5), api.MaxTime, api.MaxTime, 1))
	w.all()
}

func TestTimesRoundAFrontier(t *testing.T) { // P22.2: a time of the frontier itself, and those just ahead of it, beside it and behind it
	for _, f := range [][]api.Time{times(at(5, 5)), times(at(3, 7), at(5, 5), at(7, 3)), times(at(5, 5), at(9, 0)), times(at(0, 9), at(5, 5))} {
		for _, k := range []struct {
			time  api.Time
			taken bool
		}{
			{at(5, 5), true}, {at(5, 4), false}, {at(4, 5), false}, {at(4, 4), false}, {at(5, 6), true}, {at(6, 5), true}, {at(6, 6), true}, {at(4, 6), false}, {at(6, 4), false},
		} {
			for side := range 2 {
				w := watch(t, fmt.Sprint(k.time, " of ", f, " side ", side), 1)
				w.accept(1-side, up(r("x"), 6, 2, 1))
				w.advance(side, f...)
				if !k.taken {
					w.refuses(side, up(r("x"), k.time.Epoch, k.time.Round, 1), api.ErrTime)
					w.tells()
					continue
				}
				w.accept(side, up(r("x"), k.time.Epoch, k.time.Round, 1))
				w.tells(up(r("x"), max(6, k.time.Epoch), k.time.Round, 1))
			}
		}
	}
}

func TestEachSideHasItsFrontier(t *testing.T) { // P22.1, P22.2: Advance of one side advances the other side's spine, not its own; an Accept is held against its own side's frontier
	for side := range 2 {
		w := watch(t, fmt.Sprint("side ", side), 1)
		w.accept(side, up(r(1), 0, 0, 1))
		w.accept(1-side, up(r(1), 0, 0, 1))
		w.advance(side, at(3, 0))
		if since := w.j.Side(1 - side).Since(); !slices.Equal(since, times(at(3, 0))) {
			t.Fatalf("the other side's Since is %v", since)
		}
		if since := w.j.Side(side).Since(); !slices.Equal(since, times(at(0, 0))) {
			t.Fatalf("its Since is %v", since)
		}
		w.refuses(side, up(r(1), 2, 9, 1), api.ErrTime)
		w.accept(1-side, up(r(1), 2, 9, 1), up(r(1), 0, 0, 1))
		w.accept(side, up(r(1), 3, 0, 1))
		w.advance(1-side, at(0, 5))
		if since := w.j.Side(1 - side).Since(); !slices.Equal(since, times(at(3, 0))) {
			t.Fatalf("the other side's Since is %v", since)
		}
		if since := w.j.Side(side).Since(); !slices.Equal(since, times(at(0, 5))) {
			t.Fatalf("its Since is %v", since)
		}
		w.refuses(1-side, up(r(1), 9, 4, 1), api.ErrTime)
		w.refuses(side, up(r(1), 2, 9, 1), api.ErrTime)
		w.accept(1-side, up(r(1), 0, 5, 1))
		w.accept(side, up(r(1), 3, 4, 1))
		w.all()
	}
}

func TestAdvance(t *testing.T) { // P22.1: to the same frontier, to one of several times, to that of no time, and behind it
	for side := range 2 {
		w := watch(t, fmt.Sprint("side ", side), 1)
		w.accept(1-side, up(r(1, "other"), 1, 1, 1))
		for _, f := range [][]api.Time{{at(0, 0)}, {at(0, 0)}, {at(0, 2), at(1, 0)}, {at(0, 2), at(1, 0)}, {at(0, 5), at(1, 2), at(4, 0)}, {at(1, 5)}, {at(1, 5)}, {at(1, api.MaxTime), at(api.MaxTime, 5)}} {
			w.advance(side, f...)
			w.accept(side, up(r(1, "own"), f[0].Epoch, f[0].Round, 1))
			w.all()
			w.work(2)
		}
		for _, none := range [][]api.Time{nil, {}} {
			w.advance(side, none...)
			for _, time := range times(at(0, 0), at(1, api.MaxTime), at(api.MaxTime, api.MaxTime)) {
				w.refuses(side, up(r(1), time.Epoch, time.Round, 1), api.ErrTime)
			}
			w.stays(side, times(at(0, 0)), api.ErrTime)
			w.stays(side, times(at(api.MaxTime, api.MaxTime)), api.ErrTime)
		}
		w.accept(1-side, up(r(1, "later"), 0, 0, 1)) // the other side goes on
		w.work(1000)
		w.accept(1-side, up(r(1, "later"), 0, 3, 1))
		w.advance(1-side, at(2, 2))
		w.accept(1-side, up(r(1, "later"), 2, 2, 1))
		w.all()
		w.advance(1 - side)
		w.refuses(1-side, up(r(1), 9, 9, 1), api.ErrTime)
		w.work(1000)
		w.tells()
	}
}

func TestFrontiersThatAreNone(t *testing.T) { // P22.1: front.Check's errors, and ErrTime of one that goes back, or beside
	var long []api.Time
	for i := range api.MaxFront + 1 {
		long = append(long, at(10+i, 10+api.MaxFront-i))
	}
	w := busy(t, "frontiers")
	for side := range 2 {
		w.stays(side, long, api.ErrMany)
		w.stays(side, make([]api.Time, api.MaxFront+1), api.ErrMany)
		w.stays(side, times(at(-1, 5)), api.ErrTime)
		w.stays(side, times(at(5, -1)), api.ErrTime)
		w.stays(side, times(at(api.MaxTime+1, 5)), api.ErrTime)
		w.stays(side, times(at(5, 9), at(9, api.MaxTime+1)), api.ErrTime)
		w.stays(side, times(at(low, high)), api.ErrTime)
		w.stays(side, times(at(5, 5), at(5, 5)), api.ErrForm)
		w.stays(side, times(at(9, 4), at(4, 9)), api.ErrForm)
		w.stays(side, times(at(4, 4), at(5, 5)), api.ErrForm)
		w.stays(side, times(at(0, 0)), api.ErrTime)
		w.stays(side, times(at(2, 0)), api.ErrTime)
		w.stays(side, times(at(0, 3), at(5, 2)), api.ErrTime)
		w.stays(side, times(at(1, 9), at(9, 0)), api.ErrTime)
		for _, f := range [][]api.Time{w.fronts[side][:1], w.fronts[side][1:]} { // fewer times are farther on
			if e := front.Check(f); e != api.OK || !front.LessEq(w.fronts[side], f) || front.LessEq(f, w.fronts[side]) {
				t.Fatalf("%v, error %d", f, int(e))
			}
		}
	}
	w.goesOn()
	w = watch(t, "as many times as may be", 0)
	w.accept(1, up(r("x"), 10, 10, 1))
	w.advance(0, long[1:]...)
	w.stays(0, long, api.ErrMany)
	w.stays(0, long[:api.MaxFront], api.ErrTime)
	w.accept(0, up(r("y"), 11, 10+api.MaxFront-1, 1))
	w.all()
	w.work(100)
	w.accept(0, up(r("y"), 10+api.MaxFront, 10, 1))
	w.all()
}

func TestTheFaultThatIsNamedFirst(t *testing.T) { // P22.1, P22.2: of two faults, and of more
	w := busy(t, "faults")
	for _, k := range []struct {
		side int
		u    api.Up
		want api.Errno
	}{
		{2, up(nil, -1, -1, 1), api.ErrArg},
		{-1, up(nil, 5, 5, 1), api.ErrArg},
		{high, up(r(1), 0, 0, 1), api.ErrArg},
		{low, up(r(1), -1, 5, 1), api.ErrArg},
		{0, up(nil, -1, -1, 1), api.ErrRange},
		{1, up(nil, 0, 0, 1), api.ErrRange},
		{0, up(r(), high, high, 0), api.ErrRange},
		{0, up(r(1), 0, 0, high), api.ErrTime},
		{1, up(r(1), -1, 9, low), api.ErrTime},
	} {
		w.refuses(k.side, k.u, k.want)
	}
	many := make([]api.Time, api.MaxFront+1)
	many[0] = at(-1, 0)
	for _, k := range []struct {
		side int
		f    []api.Time
		want api.Errno
	}{
		{2, many, api.ErrArg},
		{-1, times(at(-1, 0)), api.ErrArg},
		{low, times(at(5, 5), at(5, 5)), api.ErrArg},
		{high, times(at(0, 0)), api.ErrArg},
		{0, many, api.ErrMany},
		{1, many[1:], api.ErrForm},
		{1, times(at(5, 5), at(-1, 5), at(5, 5)), api.ErrTime},
		{0, times(at(0, 0), at(0, 0)), api.ErrForm},
		{1, times(at(0, 1), at(0, 0)), api.ErrForm},
		{0, times(at(0, 0)), api.ErrTime},
	} {
		w.stays(k.side, k.f, k.want)
	}
	w.goesOn()
	j, _ := join.New(1) // a number that is too great is asked last of all
	j.Accept(0, up(r(1), 0, 0, high))
	j.Advance(1, times(at(1, 1)))
	for _, k := range []struct {
		side int
		u    api.Up
		want api.Errno
	}{
		{3, up(r(1), 1, 1, high), api.ErrArg}, {1, up(nil, 1, 1, high), api.ErrRange}, {1, up(r(1), 1, 0, high), api.ErrTime}, {1, up(r(1), 1, api.MaxTime+1, high), api.ErrTime}, {1, up(r(1), high, 1, low), api.ErrTime}, {1, up(r(1), 1, 1, high), api.ErrOver},
	} {
		if e := j.Accept(k.side, k.u); e != k.want {
			t.Errorf("Accept(%d, %v): error %d, want %d", k.side, k.u, int(e), int(k.want))
		}
	}
}

func TestNextAndLen(t *testing.T) { // P22.3: of none, of the last one, and behind it
	w := watch(t, "next", 1)
	w.tells()
	w.accept(0, up(r(1), 0, 0, 1))
	w.tells()
	for i := range 20 {
		for range i {
			w.accept(1, up(r(1, i), i, 0, 1))
		}
		for range i / 2 {
			w.nextOnly()
			w.hold("Next")
		}
	}
	w.all()
	w.accept(1, up(r(1, 99), 0, 0, 1))
	w.tells(up(r(1, 99), 0, 0, 1))
}

func TestManyWait(t *testing.T) { // P22.3: more than a queue may have, in the order in which they came
	const keys, each = 300, 300
	j, _ := join.New(0)
	for i := range each {
		j.Accept(1, up(r(i), 0, i, 1))
	}
	for i := range keys {
		if e := j.Accept(0, up(r(keys-i), i, 0, i+1)); e != api.OK {
			t.Fatalf("error %d", int(e))
		}
	}
	if j.Len() != keys*each || j.Len() <= api.MaxQueue || !slices.Equal(j.Lower(), times(at(0, 0))) {
		t.Fatalf("Len %d, Lower %v", j.Len(), j.Lower())
	}
	for i := range keys * each {
		epoch, round := i/each, i%each
		if u, ok := j.Next(); !ok || !same(u, up(r(keys-epoch, round), epoch, round, epoch+1)) {
			t.Fatalf("number %d: %v, %v", i, u, ok)
		}
	}
	if u, ok := j.Next(); ok || !isNothing(u) || j.Len() != 0 {
		t.Fatalf("%v, %v, Len %d", u, ok, j.Len())
	}
}

func TestLower(t *testing.T) { // P22.3: of none, of one time several times, of times of which one is LessEq to another, or none is
	for _, k := range []struct{ times, want []api.Time }{
		{nil, nil},
		{times(at(0, 0)), times(at(0, 0))},
		{times(at(3, 4), at(3, 4), at(3, 4)), times(at(3, 4))},
		{times(at(2, 0), at(0, 2), at(2, 2)), times(at(0, 2), at(2, 0))},
		{times(at(2, 2), at(1, 1)), times(at(1, 1))},
		{times(at(5, 5), at(4, 4), at(6, 3), at(4, 5)), times(at(4, 4), at(6, 3))},
		{times(at(3, 0), at(2, 1), at(1, 2), at(0, 3)), times(at(0, 3), at(1, 2), at(2, 1), at(3, 0))},
		{times(at(0, 1), at(0, 2), at(0, 0)), times(at(0, 0))},
		{times(at(api.MaxTime, 0), at(0, api.MaxTime)), times(at(0, api.MaxTime), at(api.MaxTime, 0))},
	} {
		w := watch(t, fmt.Sprint(k.times), 1)
		w.accept(0, up(r(1), 0, 0, 1), up(r(2), 0, 0, 1))
		for i, time := range k.times {
			w.accept(1, up(r(1, i), time.Epoch, time.Round, 1))
			w.accept(1, up(r(3, i), 0, 0, 1)) // what waits not counts not
		}
		if got := w.j.Lower(); !slices.Equal(got, k.want) {
			t.Errorf("Lower of %v: %v, want %v", k.times, got, k.want)
		}
		for len(w.waits) > 0 {
			w.nextOnly()
			w.hold("Next")
		}
		if got := w.j.Lower(); len(got) != 0 {
			t.Errorf("Lower of none: %v", got)
		}
	}
}

// heavy is a join whose sides have so many changes, none of which is merged yet with all others.
func heavy(t *testing.T, name string, first, second int) *watched {
	t.Helper()
	w := watch(t, name, 1)
	for side, count := range []int{first, second} {
		for i := range count {
			w.accept(side, up(r(10*side+i, i), i%3, 0, 1))
		}
	}
	return w
}

// needs is how much fuel a join takes until it is still, and how much of that side 0 takes.
func needs(t *testing.T, first, second int) (all, ofZero int) {
	t.Helper()
	w := heavy(t, "needs", first, second)
	left, _ := w.spines[0].Work(1000)
	rest, _ := w.spines[1].Work(left)
	return 1000 - rest, 1000 - left
}

func TestWork(t *testing.T) { // P22.3: no fuel, fuel below 0, too little, just enough, more than enough; what side 0 leaves is side 1's
	for _, k := range []struct{ first, second int }{{0, 0}, {0, 4}, {4, 0}, {1, 1}, {5, 7}, {6, 3}, {8, 8}} {
		all, ofZero := needs(t, k.first, k.second)
		for _, fuel := range []int{low, -1, 0, 1, 2, ofZero - 1, ofZero, ofZero + 1, all - 1, all, all + 1, 1000, high} {
			w := heavy(t, fmt.Sprint(k, " with ", fuel), k.first, k.second)
			wasZero, wasOne := w.j.Side(0).Still(), w.j.Side(1).Still()
			left := w.work(fuel)
			if want := max(0, max(0, fuel)-all); left != want {
				t.Fatalf("%v: Work(%d) leaves %d, want %d", k, fuel, left, want)
			}
			if fuel <= 0 && (w.j.Side(0).Still() != wasZero || w.j.Side(1).Still() != wasOne) {
				t.Fatalf("%v: Work(%d) does something", k, fuel)
			}
			if fuel > 0 && fuel >= all && !w.j.Still() {
				t.Fatalf("%v: behind Work(%d) it is not still", k, fuel)
			}
			if fuel > 0 && fuel < ofZero && w.j.Side(0).Still() {
				t.Fatalf("%v: behind Work(%d) side 0 is still", k, fuel)
			}
			if fuel > 0 && fuel <= ofZero && w.j.Side(1).Still() != wasOne {
				t.Fatalf("%v: Work(%d) reaches side 1", k, fuel)
			}
			if fuel > 0 && w.work(all+1) < 1 {
				t.Fatalf("%v: behind Work(%d) more is to be done than ever was", k, fuel)
			}
			w.tells()
		}
	}
}

func TestWorkInBits(t *testing.T) { // P22.3: a bit at a time comes to the same as all at once
	w := heavy(t, "bits", 9, 11)
	for i := 0; !w.j.Still(); i++ {
		w.work(1)
		if i > 1000 {
			t.Fatal("it is never still")
		}
	}
	for side, count := range []int{9, 11} {
		if batches := w.j.Side(side).Batches(); len(batches) != 1 || batches[0].Len() != count {
			t.Fatalf("side %d has %d batches", side, len(batches))
		}
	}
	if left := w.work(7); left != 7 {
		t.Fatalf("of a still one 7 leaves %d", left)
	}
	w.accept(0, up(r(10), 9, 9, 2))
	w.accept(1, up(r(0), 9, 9, 2))
	w.all()
}

func TestStill(t *testing.T) { // P22.3: of a join that never had any, ahead of Work, and behind it; both sides are asked
	ask := func(w *watched, want bool) {
		t.Helper()
		if w.j.Still() != want {
			t.Fatalf("%s: Still is %v", w.name, !want)
		}
	}
	for side := range 2 {
		w := watch(t, fmt.Sprint("side ", side), 1)
		ask(w, true)
		w.accept(side, up(r(1), 0, 0, 1))
		ask(w, true) // one batch
		w.accept(side, up(r(2), 0, 0, 1))
		ask(w, false)
		w.work(0)
		ask(w, false)
		w.work(100)
		ask(w, true)
		w.advance(side, at(1, 0)) // the other side has none
		ask(w, true)
		w.advance(1-side, at(1, 0)) // its batch has another Since
		ask(w, false)
		w.work(100)
		ask(w, true)
		w.nextOnly()
		w.refuses(side, up(r(1), 0, 0, 1), api.ErrTime)
		ask(w, true)
	}
}

func TestAdvancedSideIsMerged(t *testing.T) { // P22.4: a side that is advanced and worked on has fewer changes, and tells the same
	for side := range 2 {
		w := watch(t, fmt.Sprint("side ", side), 1)
		for i := range 30 {
			w.accept(side, up(r(1, i%3), i%5, i%4, 1))
		}
		for i := range 10 {
			w.accept(side, up(r(1, "gone"), i, 0, 1), up(r(1, "gone"), i, 1, -1))
		}
		w.advance(1-side, at(4, 9), at(6, 6))
		w.work(1000)
		if l := w.j.Side(side).Ups(); len(l) >= 20 || !w.j.Still() {
			t.Fatalf("%d changes are left", len(l))
		}
		w.accept(1-side, up(r(1, "late"), 6, 6, 1), up(r(1, "late"), 4, 9, 2), up(r(1, "late"), 100, 100, 3))
		w.all()
		w.accept(side, up(r(1, "new"), 0, 0, 1))
		w.all()
	}
}

// storm calls everything, at many arguments: it is asked only that all ends.
func storm(j *join.Join) {
	x := chance(77)
	for range 300 {
		w := x.wildCall(1, [2][]api.Time{{at(0, 0)}, {at(0, 0)}})
		w(j)
		j.Accept(x.below(2), up(r(1), 9, 9, []int{1, high, low, -1}[x.below(4)]))
		j.Len()
		j.Lower()
		j.Still()
		for side := -1; side < 3; side++ {
			if s := j.Side(side); s != nil {
				s.Ups()
				s.Still()
				s.At(at(9, 9))
			}
		}
	}
	for range j.Len() {
		j.Next()
	}
}

func TestProductsAndSums(t *testing.T) { // P22.2: that are too great or too small, and those that just fit
	type part struct{ epoch, diff int } // side 0 has the row (1 a) at (epoch, 0); side 1 gets (1 x) at (9, 0)
	for _, k := range []struct {
		has  []part
		diff int
		want int
		e    api.Errno
	}{
		{[]part{{0, 1 << 31}}, 1 << 31, 1 << 62, api.OK},
		{[]part{{0, 1 << 31}}, 1 << 32, 0, api.ErrOver},
		{[]part{{0, -1 << 31}}, 1 << 32, low, api.OK},
		{[]part{{0, -1<<31 - 1}}, 1 << 32, 0, api.ErrOver},
		{[]part{{0, high}}, 1, high, api.OK},
		{[]part{{0, high}}, 2, 0, api.ErrOver},
		{[]part{{0, high}}, -1, -high, api.OK},
		{[]part{{0, low}}, 1, low, api.OK},
		{[]part{{0, low}}, -1, 0, api.ErrOver},
		{[]part{{0, -1}}, low, 0, api.ErrOver},
		{[]part{{0, low}}, low, 0, api.ErrOver},
		{[]part{{0, high}}, high, 0, api.ErrOver},
		{[]part{{0, high}}, low, 0, api.ErrOver},
		{[]part{{0, low}}, 0, 0, api.OK},
		{[]part{{0, high - 1}, {1, 1}}, 1, high, api.OK},
		{[]part{{0, high}, {1, 1}}, 1, 0, api.ErrOver},
		{[]part{{0, low + 1}, {1, -1}}, 1, low, api.OK},
		{[]part{{0, low}, {1, -1}}, 1, 0, api.ErrOver},
		{[]part{{0, 1 << 61}, {1, 1 << 61}}, 2, 0, api.ErrOver},
		{[]part{{0, -1 << 61}, {1, -1 << 61}}, 2, low, api.OK},
		{[]part{{0, high}, {1, low}}, 1, -1, api.OK},
		{[]part{{0, 1}, {1, 1 << 62}}, 2, 0, api.ErrOver},
	} {
		j, _ := join.New(1)
		for _, p := range k.has {
			if e := j.Accept(0, up(r(1, "a"), p.epoch, 0, p.diff)); e != api.OK {
				t.Fatalf("%+v: error %d", k, int(e))
			}
		}
		e := j.Accept(1, up(r(1, "x"), 9, 0, k.diff))
		if e != k.e {
			t.Errorf("%+v: error %d", k, int(e))
			continue
		}
		if u, ok := j.Next(); e == api.OK && k.want != 0 && (!ok || !same(u, up(r(1, "a", "x"), 9, 0, k.want))) {
			t.Errorf("%+v: %v, %v", k, u, ok)
		}
		storm(j)
	}
}

func TestFarRowsAreNotReckoned(t *testing.T) { // P22.2: of other keys, and at other times, nothing is too great
	w := watch(t, "far", 1)
	w.accept(0, up(r(1, "a"), 0, 0, high), up(r(2, "a"), 0, 0, high), up(r(2, "b"), 0, 0, high), up(r(2, "a"), 5, 0, high), up(r(3), 0, 0, low))
	w.accept(1, up(r(2, "x"), 1, 0, 1))
	w.tells(up(r(2, "a", "x"), 1, 0, high), up(r(2, "a", "x"), 5, 0, high), up(r(2, "b", "x"), 1, 0, high))
	w.accept(1, up(r(4), 0, 0, high), up(r(4), 0, 1, high), up(r(4), 0, 2, high))
	w.tells()
}

func TestSpinesThatBreak(t *testing.T) { // P22.2, P22.3: spine.Insert's and spine.Work's error, told when the spine tells it
	for side := range 2 {
		j, _ := join.New(1)
		twin, _ := spine.New(1)
		broke := false
		for i := 0; i < 20 && !broke; i++ {
			want := twin.Insert(ups(up(r(1), 0, 0, high)))
			if e := j.Accept(side, up(r(1), 0, 0, high)); e != want {
				t.Fatalf("number %d: error %d, want %d", i, int(e), int(want))
			}
			broke = want != api.OK
		}
		if !broke {
			t.Fatal("it never breaks")
		}
		if left, e := j.Work(50); left != 0 || e != api.ErrOver || j.Still() {
			t.Fatalf("Work: %d, error %d, Still %v", left, int(e), j.Still())
		}
		storm(j)

		j, _ = join.New(1) // it breaks while it is worked on
		j.Accept(side, up(r(1), 0, 0, low))
		if e := j.Accept(side, up(r(1), 0, 0, -1)); e != api.OK {
			t.Fatalf("error %d", int(e))
		}
		if left, e := j.Work(0); left != 0 || e != api.OK {
			t.Fatalf("Work: %d, error %d", left, int(e))
		}
		if left, e := j.Work(50); left != 0 || e != api.ErrOver || j.Still() {
			t.Fatalf("Work: %d, error %d, Still %v", left, int(e), j.Still())
		}
		if left, e := j.Work(0); left != 0 || e != api.ErrOver {
			t.Fatalf("Work: %d, error %d", left, int(e))
		}
		storm(j)
	}
}

func TestALaterProduct(t *testing.T) { // P22.2: the first ones fit, and one behind them is too great
	for _, diffs := range [][]int{{1, 4}, {4, 1}, {-1, 1, -4}} {
		j, _ := join.New(1)
		for i, diff := range diffs {
			j.Accept(0, up(r(1, i), 0, 0, diff))
		}
		if e := j.Accept(1, up(r(1, "x"), 0, 0, 1<<62)); e != api.ErrOver {
			t.Fatalf("%v: error %d", diffs, int(e))
		}
		storm(j)
	}
}

// chance tells numbers that follow from one alone: the same ones whenever it is made.
type chance uint64

func (x *chance) below(bound int) int {
	*x = *x*6364136223846793005 + 1442695040888963407
	return int(uint64(*x)>>33) % bound
}

// value is one of few, with something or other in the field that plays no part.
func (x *chance) value() api.Val {
	switch x.below(8) {
	case 0:
		return api.Val{Kind: api.KindInt, Int: 0, Str: "beside"}
	case 1, 2, 3:
		return n(x.below(2))
	case 4:
		return api.Val{Kind: api.KindStr, Str: "a", Int: x.below(2)}
	case 5, 6:
		return s([]string{"", "a"}[x.below(2)])
	}
	return odd(7)
}

// row has a key and up to two values behind it; now and then, if it may be wrong, it is shorter.
func (x *chance) row(key int, wild bool) api.Row {
	length := key + x.below(3)
	if wild && x.below(12) == 0 {
		length = x.below(key + 1)
	}
	var l api.Row
	for range length {
		l = append(l, x.value())
	}
	return l
}

// time is one in advance of f; now and then, if it may be wrong, it is any.
func (x *chance) time(f []api.Time, wild bool) api.Time {
	t := at(x.below(4), x.below(4))
	if wild && x.below(10) == 0 {
		return []api.Time{t, at(-1, 3), at(3, -1), at(api.MaxTime+1, 3), at(low, high), at(api.MaxTime, api.MaxTime)}[x.below(6)]
	}
	if len(f) == 0 {
		return t
	}
	least := f[x.below(len(f))]
	return at(least.Epoch+t.Epoch, least.Round+t.Round)
}

func (x *chance) change(key int, f []api.Time, wild bool) api.Up {
	return api.Up{Row: x.row(key, wild), Time: x.time(f, wild), Diff: x.below(6) - 2}
}

// front is f, or a bit farther on; now and then, if it may be wrong, it is any list.
func (x *chance) front(f []api.Time, wild bool) []api.Time {
	if wild && x.below(4) == 0 {
		var l []api.Time
		for range 1 + x.below(4) {
			l = append(l, x.time(f, true))
		}
		return l
	}
	var l []api.Time
	for _, t := range f {
		l = append(l, at(t.Epoch+x.below(2), t.Round+x.below(2)))
		if x.below(3) == 0 {
			l = append(l, at(t.Epoch+2, t.Round), at(t.Epoch, t.Round+3))
		}
	}
	l = front.New(l)
	return l[:min(len(l), 4)]
}

// wildCall is any call.
func (x *chance) wildCall(key int, fronts [2][]api.Time) func(*join.Join) {
	side := x.below(2)
	u, f, fuel := x.change(key, fronts[side], true), x.front(fronts[side], true), x.below(9)-1
	switch x.below(5) {
	case 0:
		return func(j *join.Join) { j.Advance(side, f) }
	case 1:
		return func(j *join.Join) { j.Next() }
	case 2:
		return func(j *join.Join) { j.Work(fuel) }
	}
	return func(j *join.Join) { j.Accept(side, u) }
}

// call is one that is drawn. More is accepted for a while, then more is told.
func (x *chance) call(w *watched, wild bool) {
	w.t.Helper()
	side := x.below(2)
	if wild && x.below(20) == 0 {
		side = sidesThatAreNone[x.below(len(sidesThatAreNone))]
	}
	var f []api.Time
	if side == 0 || side == 1 {
		f = w.fronts[side]
	}
	accepts := 4
	if len(w.calls)/40%2 == 0 {
		accepts = 8
	}
	switch draw := x.below(14); {
	case draw < accepts:
		w.acceptOnly(side, x.change(w.key, f, wild))
	case draw < 10:
		w.nextOnly()
	case draw < 12:
		w.workOnly(x.below(12) - 1)
	default:
		w.advanceOnly(side, x.front(f, wild))
	}
}

// run does calls that are drawn, and asks all that may be asked behind each of them; what waits, in its order, each so many calls.
func run(t *testing.T, seed uint64, key, calls, each int, wild bool) *watched {
	t.Helper()
	x := chance(seed)
	w := watch(t, fmt.Sprint("seed ", seed, " key ", key), key)
	for i := range calls {
		x.call(w, wild)
		step := fmt.Sprint("call ", i)
		w.hold(step)
		if i%each == 0 {
			w.holdWaiting(step)
		}
	}
	if w.over {
		t.Fatal("numbers so small are too great together")
	}
	return w
}

func TestCallsThatAreDrawn(t *testing.T) { // P22.1 to P22.3: held against two plain lists behind each call
	for _, wild := range []bool{false, true} {
		most, next := 0, 0
		for i := range 40 {
			w := run(t, uint64(i+1), i%4, 70, 1, wild)
			most, next = max(most, len(w.lists[0])+len(w.lists[1])), next+len(w.next)+len(w.waits)
			w.all()
		}
		for i := range 24 {
			w := run(t, uint64(i+100), i%4, 300, 50, wild)
			most, next = max(most, len(w.lists[0])+len(w.lists[1])), next+len(w.next)+len(w.waits)
			w.all()
		}
		if most < 120 || next < 5000 {
			t.Errorf("wild %v: at most %d were accepted, and %d came of all", wild, most, next)
		}
	}
}

// holdMeaning asks that what was told and what waits, together, is what deno.Node makes of what both sides had accepted, at each of some times.
func (w *watched) holdMeaning(l []api.Time) {
	w.t.Helper()
	j, _ := join.New(w.key)
	for _, call := range w.calls {
		call(j)
	}
	all := copied(w.next)
	for u, ok := j.Next(); ok; u, ok = j.Next() {
		all = append(all, u)
	}
	for _, time := range l {
		var sides [][]api.Count
		for side := range 2 {
			there, e := zset.At(w.lists[side], time)
			if e != api.OK {
				w.t.Fatalf("%s: error %d", w.name, int(e))
			}
			sides = append(sides, there)
		}
		want, wantErr := deno.Node(api.Node{Kind: api.NodeJoin, Key: w.key}, sides)
		got, e := zset.At(all, time)
		if e != api.OK || wantErr != api.OK || !slices.EqualFunc(got, want, func(a, b api.Count) bool { return row.Same(a.Row, b.Row) && a.Diff == b.Diff }) {
			w.t.Fatalf("%s: at %v there is %s, %d; deno.Node makes %s, %d", w.name, time, told(got), int(e), told(want), int(wantErr))
		}
	}
}

func TestMeaning(t *testing.T) { // P22.4: over long rows of calls with Advance and Work among them, at many times
	l := append(grid(6), at(9, 3), at(3, 9), at(12, 12), at(api.MaxTime, 2), at(api.MaxTime, api.MaxTime))
	for i := range 12 {
		x := chance(300 + i)
		w := watch(t, fmt.Sprint("seed ", 300+i), i%4)
		calls := 600
		if w.key == 0 { // each meets each
			calls = 250
		}
		for call := range calls {
			x.call(w, i%3 == 0)
			if call%100 == 0 {
				w.holdMeaning(l)
			}
		}
		w.hold("at the end")
		w.holdMeaning(l)
		if len(w.lists[0]) < 40 || len(w.lists[1]) < 40 || len(w.next) < 50 {
			t.Errorf("%d and %d were accepted, %d were told", len(w.lists[0]), len(w.lists[1]), len(w.next))
		}
		w.all()
		w.holdMeaning(l)
	}
}

func TestAdvancedOrNot(t *testing.T) { // P22.4: two joins with the same Accepts, of which one is advanced and worked on and the other is not, tell the same
	for i := range 20 {
		x := chance(500 + i)
		key := i % 4
		busy, idle := watch(t, fmt.Sprint("seed ", 500+i), key), watch(t, "idle", key)
		merged := false
		for call := range 300 {
			side := x.below(2)
			u := x.change(key, busy.fronts[side], false)
			busy.acceptOnly(side, u)
			idle.acceptOnly(side, u)
			if x.below(3) == 0 {
				busy.advanceOnly(side, x.front(busy.fronts[side], false))
			}
			if x.below(2) == 0 {
				busy.workOnly(x.below(200))
			}
			if busy.j.Len() != idle.j.Len() || !slices.Equal(busy.j.Lower(), idle.j.Lower()) {
				t.Fatalf("call %d: Len %d and %d, Lower %v and %v", call, busy.j.Len(), idle.j.Len(), busy.j.Lower(), idle.j.Lower())
			}
			for range x.below(4) {
				got, ok := busy.j.Next()
				want, wantOk := idle.j.Next()
				if ok != wantOk || !same(got, want) {
					t.Fatalf("call %d: %s, %v; the other one tells %s, %v", call, told(got), ok, told(want), wantOk)
				}
				if ok {
					busy.waits, idle.waits = busy.waits[1:], idle.waits[1:]
				}
			}
			merged = merged || len(busy.j.Side(0).Ups()) < len(idle.j.Side(0).Ups())
		}
		for got, ok := busy.j.Next(); ok; got, ok = busy.j.Next() {
			if want, ok := idle.j.Next(); !ok || !same(got, want) {
				t.Fatalf("%s; the other one tells %s, %v", told(got), told(want), ok)
			}
		}
		if !merged || idle.j.Len() != 0 {
			t.Errorf("merged %v, Len %d", merged, idle.j.Len())
		}
	}
}

func TestMany(t *testing.T) { // P22.2: many keys; each change meets those with its key alone
	const keys = 3000
	j, _ := join.New(1)
	for i := range keys {
		i = i * 1237 % keys
		if e := j.Accept(0, up(r(i, "left"), i%50, 0, i+1)); e != api.OK {
			t.Fatalf("error %d", int(e))
		}
		if i%100 == 0 {
			j.Advance(1, times(at(0, i/100)))
			j.Work(i)
		}
	}
	j.Advance(1, times(at(0, keys)))
	for i := range keys {
		if e := j.Accept(1, up(r(i, "right"), 0, keys, 2)); e != api.OK {
			t.Fatalf("error %d", int(e))
		}
		if u, ok := j.Next(); !ok || !same(u, up(r(i, "left", "right"), i%50, keys, 2*i+2)) || j.Len() != 0 {
			t.Fatalf("%v, %v, Len %d", u, ok, j.Len())
		}
	}
}

func TestAnswersHangOnTheJoinsCallsAlone(t *testing.T) { // from arguments alone: joins beside one another know nothing of each other
	a, b, c := watch(t, "one", 1), watch(t, "another", 1), watch(t, "a third", 1)
	x, y, z := chance(5), chance(5), chance(6)
	for range 200 {
		x.call(a, true)
		z.call(b, true)
		a.hold("drawn")
		b.hold("drawn")
	}
	for range 200 {
		y.call(c, true)
	}
	c.hold("at the end")
	if !slices.EqualFunc(a.next, c.next, same) || !slices.EqualFunc(a.waits, c.waits, same) {
		t.Fatal("the same calls are drawn, and the joins differ")
	}
	a.all()
	b.all()
	c.all()
}

func TestAskingChangesNothing(t *testing.T) { // P22.3: Len, Lower, Still, Side and all that a side tells; a Next of none
	w := busy(t, "asked")
	for range 50 {
		w.j.Len()
		w.j.Lower()
		w.j.Still()
		for side := -1; side < 3; side++ {
			if s := w.j.Side(side); s != nil {
				s.Ups()
				s.Run(r(1))
				s.Batches()
				s.At(at(5, 5))
			}
		}
		w.hold("asked")
	}
	w.goesOn()
	w.tells()
	w.goesOnBehind()
}

// goesOnBehind asks that a join from which all was told goes on.
func (w *watched) goesOnBehind() {
	w.t.Helper()
	last := moment.Join(w.fronts[0][0], w.fronts[1][0])
	w.accept(0, up(r(1, "g"), last.Epoch, last.Round, 1))
	w.accept(1, up(r(1, "h"), last.Epoch, last.Round, 1))
	w.all()
}

func FuzzJoins(f *testing.F) {
	f.Add(uint64(1), uint8(1), uint8(30), false)
	f.Add(uint64(2), uint8(0), uint8(90), true)
	f.Add(uint64(3), uint8(3), uint8(200), true)
	f.Fuzz(func(t *testing.T, seed uint64, key, calls uint8, wild bool) {
		w := run(t, seed, int(key)%4, int(calls), 20, wild)
		w.holdMeaning(grid(6))
		w.all()
	})
}

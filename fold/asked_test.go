package fold_test

import (
	"fmt"
	"slices"
	"testing"

	"runnel/api"
	"runnel/fold"
	"runnel/front"
	"runnel/group"
	"runnel/moment"
	"runnel/spine"
	"runnel/zset"
)

// grid are all times with numbers below a bound.
func grid(bound int) []api.Time {
	var l []api.Time
	for epoch := range bound {
		for round := range bound {
			l = append(l, at(epoch, round))
		}
	}
	return l
}

// stairs are so many times of which none is LessEq to another one, from a time on.
func stairs(from api.Time, count int) []api.Time {
	var l []api.Time
	for i := range count {
		l = append(l, at(from.Epoch+i, from.Round+count-1-i))
	}
	return l
}

// busy is a fold of which both sides have some, something is due, more is to do and something is to be done with fuel.
func busy(t *testing.T, name string) *watched {
	t.Helper()
	w := watch(t, name, api.GroupCount, 1, 0, 2)
	w.accept(up(r(1, "a"), 0, 0, 1), up(r(2, "b"), 1, 0, 2), up(r(1, "c"), 0, 1, 3))
	w.advance(at(1, 2), at(3, 1))
	w.step(up(r(1, 1), 0, 0, 1))
	w.step(up(r(1, 1), 0, 1, -1), up(r(1, 4), 0, 1, 1))
	w.accept(up(r(1, "d"), 1, 2, 1), up(r(4, "e"), 5, 1, 1))
	if w.f.Todo() != 3 || !w.f.Due() || w.f.Still() {
		t.Fatalf("Todo %d, Due %v, Still %v", w.f.Todo(), w.f.Due(), w.f.Still())
	}
	return w
}

// goesOn asks that a fold is as it was: what is to do, what its Steps tell, what it still takes, what is done with fuel.
func (w *watched) goesOn() {
	w.t.Helper()
	other := w.again()
	for i := range 3 {
		got, did, e := w.f.Step()
		want, wantDid, wantErr := other.Step()
		if !slices.EqualFunc(got, want, same) || did != wantDid || e != wantErr {
			w.t.Fatalf("%s: Step %d: %v, %v, error %d; of another one %v, %v, error %d", w.name, i, got, did, int(e), want, wantDid, int(wantErr))
		}
	}
	w.f = w.again()
	w.hold("behind the errors")
	w.step(up(r(2, 2), 1, 0, 1))
	w.none()
	w.accept(up(r(1, "d"), 1, 2, 1), up(r(3, "e"), 3, 1, 1))
	w.work(3)
	w.work(1000)
	w.advance(at(1, 3), at(3, 1))
	w.all()
	w.work(1000)
	w.accept(up(r(1, "f"), 3, 1, 1))
	w.advance(at(9, 9))
	w.all()
}

// lengthsBeside are lengths of rows that are not cols.
func lengthsBeside(cols int) []int {
	var l []int
	for length := range cols + 4 {
		if length != cols {
			l = append(l, length)
		}
	}
	return append(l, 40)
}

func TestRowsOfOtherLengths(t *testing.T) { // P23.2: shorter, longer, none: ErrRange, and nothing has changed
	w := busy(t, "lengths")
	for _, x := range []api.Row{nil, {}, r(1)[:0], r(1), r(1, "a", 2), r(1, "a", "b", "c"), wide(17, 0)} {
		w.refuses(up(x, 5, 5, 1), api.ErrRange)
	}
	w.goesOn()
	for kind := range api.Groups {
		for cols := range api.MaxCols + 1 {
			w := watch(t, fmt.Sprint("kind ", kind, " cols ", cols), kind, cols/2, 1, cols)
			for _, length := range lengthsBeside(cols) {
				w.refuses(up(wide(length, 1), 0, 0, 1), api.ErrRange)
			}
			w.accept(up(wide(cols, 1), 0, 0, 1))
			w.ask(1, false, at(0, 0))
		}
	}
}

func TestTimesThatMayNotBe(t *testing.T) { // P23.2: ErrTime, and nothing has changed
	w := busy(t, "times")
	for _, bad := range times(at(-1, 5), at(5, -1), at(-1, -1), at(low, 5), at(5, low), at(api.MaxTime+1, 5), at(5, api.MaxTime+1), at(high, high), at(high, low), at(api.MaxTime+1, api.MaxTime+1)) {
		w.refuses(api.Up{Row: r(1, "a"), Time: bad, Diff: 1}, api.ErrTime)
	}
	for _, early := range times(at(0, 0), at(0, 9), at(1, 1), at(2, 1), at(9, 0)) {
		w.refuses(api.Up{Row: r(1, "a"), Time: early, Diff: 1}, api.ErrTime)
	}
	w.goesOn()
	w = watch(t, "the greatest times", api.GroupCount, 0, 0, 1)
	w.accept(up(r(1), api.MaxTime, 0, 1), up(r(2), 0, api.MaxTime, 1), up(r(3), api.MaxTime, api.MaxTime, 1))
	w.ask(3, false, at(0, api.MaxTime), at(api.MaxTime, 0))
	w.advance(at(api.MaxTime, api.MaxTime))
	w.step(up(r(1), 0, api.MaxTime, 1))
	w.step(up(r(1), api.MaxTime, 0, 1))
	w.none()
	w.refuses(up(r(1), api.MaxTime, api.MaxTime-1, 1), api.ErrTime)
	w.accept(up(r(4), api.MaxTime, api.MaxTime, 1))
	w.work(100)
	w.advance()
	w.step(up(r(1), api.MaxTime, api.MaxTime, -2), up(r(4), api.MaxTime, api.MaxTime, 1))
	w.none()
}

func TestTimesRoundAFrontier(t *testing.T) { // P23.2, P23.3: a time of the frontier itself, and those just ahead of it, beside it and behind it: which may come, and which are due
	for _, f := range [][]api.Time{times(at(5, 5)), times(at(3, 7), at(5, 5), at(7, 3)), times(at(5, 5), at(9, 0)), times(at(0, 9), at(5, 5))} {
		for _, k := range []struct {
			time    api.Time
			advance bool
		}{
			{at(5, 5), true}, {at(5, 4), false}, {at(4, 5), false}, {at(4, 4), false}, {at(5, 6), true}, {at(6, 5), true}, {at(6, 6), true}, {at(4, 6), false}, {at(6, 4), false},
		} {
			u := api.Up{Row: r("x"), Time: k.time, Diff: 1}
			w := watch(t, fmt.Sprint(k.time, " comes behind ", f), api.GroupDistinct, 0, 0, 1)
			w.advance(f...)
			if k.advance {
				w.accept(u)
				w.ask(1, false, k.time)
			} else {
				w.refuses(u, api.ErrTime)
				w.ask(0, false)
			}
			w.none()
			w = watch(t, fmt.Sprint(k.time, " comes ahead of ", f), api.GroupDistinct, 0, 0, 1)
			w.accept(u)
			w.advance(f...)
			w.ask(1, !k.advance, k.time)
			if !k.advance {
				w.step(u)
			}
			w.none()
		}
	}
}

func TestAdvance(t *testing.T) { // P23.2: to the same frontier, to one of several times, to that of no time, and behind it
	w := watch(t, "advance", api.GroupCount, 1, 0, 2)
	for i, f := range [][]api.Time{{at(0, 0)}, {at(0, 0)}, {at(0, 2), at(1, 0)}, {at(0, 2), at(1, 0)}, {at(0, 5), at(1, 2), at(4, 0)}, {at(1, 5)}, {at(1, 5)}, {at(1, api.MaxTime), at(api.MaxTime, 5)}} {
		w.advance(f...)
		w.accept(up(r(1, i), f[0].Epoch, f[0].Round, 1), up(r(i, "own"), f[len(f)-1].Epoch, f[len(f)-1].Round, 2))
		if i%2 == 0 {
			w.all()
		}
		w.work(2)
	}
	w.advance()
	for range 2 {
		w.refuses(up(r(1, 1), api.MaxTime, api.MaxTime, 1), api.ErrTime)
		w.refuses(up(r(1, 1), 0, 0, 1), api.ErrTime)
		w.stays(times(at(0, 0)), api.ErrTime)
		w.stays(times(at(api.MaxTime, api.MaxTime)), api.ErrTime)
		w.advance([]api.Time{}...)
		w.all() // all that is to do is due
		w.ask(0, false)
	}
	w.work(1000)
	if !w.f.Still() || len(w.f.Side(0).Since()) != 0 || len(w.f.Side(1).Since()) != 0 {
		t.Fatalf("Still %v, Since %v, %v", w.f.Still(), w.f.Side(0).Since(), w.f.Side(1).Since())
	}
	w = watch(t, "at once", api.GroupCount, 1, 0, 2) // to that of no time, of a fold that never had any
	w.advance()
	w.none()
	w.refuses(up(r(1, 1), 0, 0, 1), api.ErrTime)
	w.work(5)
}

func TestFrontiersThatAreNone(t *testing.T) { // P23.2: front.Check's errors, and ErrTime of one that goes back, or beside
	long := stairs(at(10, 10), api.MaxFront+1)
	w := busy(t, "frontiers")
	w.stays(long, api.ErrMany)
	w.stays(make([]api.Time, api.MaxFront+1), api.ErrMany)
	w.stays(times(at(-1, 5)), api.ErrTime)
	w.stays(times(at(5, -1)), api.ErrTime)
	w.stays(times(at(api.MaxTime+1, 5)), api.ErrTime)
	w.stays(times(at(5, 9), at(9, api.MaxTime+1)), api.ErrTime)
	w.stays(times(at(low, high)), api.ErrTime)
	w.stays(times(at(5, 5), at(5, 5)), api.ErrForm)
	w.stays(times(at(9, 4), at(4, 9)), api.ErrForm)
	w.stays(times(at(4, 4), at(5, 5)), api.ErrForm)
	w.stays(times(at(0, 0)), api.ErrTime) // it goes back
	w.stays(times(at(1, 1)), api.ErrTime)
	w.stays(times(at(2, 0)), api.ErrTime) // beside
	w.stays(times(at(0, 3), at(5, 2)), api.ErrTime)
	w.stays(times(at(1, 9), at(9, 0)), api.ErrTime)
	w.goesOn()
	for _, f := range [][]api.Time{times(at(1, 2)), times(at(3, 1))} { // fewer times are farther on
		w := busy(t, "fewer")
		w.advance(f...)
		w.stays(times(at(1, 2), at(3, 1)), api.ErrTime)
		w.all()
	}
}

func TestTheFaultThatIsNamedFirst(t *testing.T) { // P23.2: of two faults, and of more
	w := busy(t, "faults")
	for _, k := range []struct {
		u    api.Up
		want api.Errno
	}{
		{up(nil, -1, -1, 1), api.ErrRange},
		{up(r(1), 0, 0, 1), api.ErrRange},
		{up(r(1, 2, 3), high, high, 0), api.ErrRange},
		{up(r(1, 2), 0, 0, high), api.ErrTime},
		{up(r(1, 2), -1, 9, low), api.ErrTime},
	} {
		w.refuses(k.u, k.want)
	}
	many := make([]api.Time, api.MaxFront+1)
	many[0] = at(-1, 0)
	for _, k := range []struct {
		f    []api.Time
		want api.Errno
	}{
		{many, api.ErrMany},
		{many[1:], api.ErrForm},
		{times(at(5, 5), at(-1, 5), at(5, 5)), api.ErrTime},
		{times(at(0, 0), at(0, 0)), api.ErrForm},
		{times(at(0, 1), at(0, 0)), api.ErrForm},
		{times(at(0, 0)), api.ErrTime},
	} {
		w.stays(k.f, k.want)
	}
	w.goesOn()
}

func TestStepOfNone(t *testing.T) { // P23.3: where nothing is to do, where nothing of it is due, and behind the last one
	w := watch(t, "none", api.GroupCount, 1, 0, 2)
	w.none()
	w.accept(up(r(1, "a"), 0, 0, 1), up(r(1, "b"), 2, 3, 1))
	w.ask(2, false, at(0, 0))
	w.none()
	w.advance(at(0, 0))
	w.none()
	w.advance(at(0, 1))
	w.ask(2, true, at(0, 0))
	w.step(up(r(1, 1), 0, 0, 1))
	w.ask(1, false, at(2, 3))
	w.none()
	w.advance(at(0, 4), at(3, 1))
	w.ask(1, true, at(2, 3)) // it is beside the frontier, and so is not in advance of it
	w.step(up(r(1, 1), 2, 3, -1), up(r(1, 2), 2, 3, 1))
	w.ask(0, false)
	w.none()
	w.accept(up(r(1, "c"), 3, 1, 1))
	w.none()
	w.advance(at(5, 5))
	w.all()
}

func TestDueBehindOnesThatAreNot(t *testing.T) { // P23.3: the first one that is due may stand behind others
	w := watch(t, "behind", api.GroupDistinct, 0, 0, 1)
	for i := range 8 {
		w.accept(up(r(i), 2*i, 14-2*i, 1), up(r(10+i), 2*i+1, 15-2*i, 1))
	}
	for _, f := range [][]api.Time{
		{at(0, 13), at(7, 7), at(9, 2)}, {at(0, 14), at(7, 8), at(9, 2)}, {at(0, 14), at(8, 8), at(9, 3)}, {at(0, 15), at(9, 4), at(14, 3)}, {at(1, 15), at(14, 4)}, nil,
	} {
		w.advance(f...)
		before := w.steps
		w.all()
		if w.steps == before {
			t.Fatalf("%v: nothing was due", f)
		}
	}
	w.ask(0, false)
}

func TestTodoAndLower(t *testing.T) { // P23.4: of none, of one, of one time with several keys, of times of which one is LessEq to another, or none is
	for _, k := range []struct {
		times, want []api.Time
	}{
		{nil, nil},
		{times(at(0, 0)), times(at(0, 0))},
		{times(at(3, 4), at(3, 4), at(3, 4)), times(at(3, 4))},
		{times(at(2, 0), at(0, 2), at(2, 2)), times(at(0, 2), at(2, 0))},
		{times(at(2, 2), at(1, 1)), times(at(1, 1))},
		{times(at(5, 5), at(4, 4), at(6, 3), at(4, 5)), times(at(4, 4), at(6, 3))},
		{times(at(3, 0), at(2, 1), at(1, 2), at(0, 3)), times(at(0, 3), at(1, 2), at(2, 1), at(3, 0))},
		{times(at(0, 1), at(0, 2), at(0, 0)), times(at(0, 0))},
		{times(at(0, 5), at(1, 5), at(2, 5), at(2, 4), at(3, 4)), times(at(0, 5), at(2, 4))},
		{times(at(api.MaxTime, 0), at(0, api.MaxTime)), times(at(0, api.MaxTime), at(api.MaxTime, 0))},
	} {
		w := watch(t, fmt.Sprint(k.times), api.GroupDistinct, 0, 0, 1)
		for i, time := range k.times {
			w.accept(api.Up{Row: r(i), Time: time, Diff: 1}, api.Up{Row: r(i), Time: time, Diff: 1})
		}
		w.ask(len(k.times), false, k.want...)
		if got := front.New(w.times()); !slices.Equal(got, k.want) {
			t.Errorf("front.New: %v", got)
		}
		w.advance()
		for len(w.todo) > 0 {
			w.stepOnly()
			w.hold("Step")
		}
		w.ask(0, false)
	}
}

func TestSince(t *testing.T) { // P23.4: of both sides, behind each Advance and each Step: of the frontier and of all times that are to do; an Accept leaves it
	w := watch(t, "since", api.GroupDistinct, 0, 0, 1)
	since := func(want ...api.Time) {
		t.Helper()
		for side := range 2 {
			if got := w.f.Side(side).Since(); !slices.Equal(got, want) {
				t.Fatalf("Since of side %d is %v, want %v", side, got, want)
			}
		}
	}
	since(at(0, 0))
	w.accept(up(r(1), 2, 0, 1), up(r(2), 0, 2, 1), up(r(3), 4, 4, 1), up(r(4), 5, 5, 1))
	since(at(0, 0))
	w.advance(at(1, 0))
	since(at(0, 2), at(1, 0))
	w.step(up(r(2), 0, 2, 1))
	since(at(1, 0))
	w.none()
	since(at(1, 0))
	w.advance(at(1, 3), at(9, 0))
	since(at(1, 3), at(2, 0))
	w.advance(at(4, 5), at(5, 3))
	since(at(2, 0)) // it is LessEq to all others
	w.step(up(r(1), 2, 0, 1))
	since(at(4, 4), at(5, 3))
	w.accept(up(r(1), 5, 3, 1), up(r(1), 9, 9, 1))
	since(at(4, 4), at(5, 3))
	w.step(up(r(3), 4, 4, 1))
	since(at(4, 5), at(5, 3))
	w.refuses(up(r(1), 0, 0, 1), api.ErrTime)
	w.stays(times(at(0, 0)), api.ErrTime)
	since(at(4, 5), at(5, 3))
	w.advance(at(6, 6))
	since(at(5, 3))
	w.advance()
	since(at(5, 3))
	w.step()
	since(at(5, 5))
	w.step(up(r(4), 5, 5, 1))
	since(at(9, 9))
	w.step()
	since()
	w.none()
	since()
}

// sinceIs asks for the Since of both sides.
func (w *watched) sinceIs(want []api.Time) {
	w.t.Helper()
	for side := range 2 {
		if got := w.f.Side(side).Since(); !slices.Equal(got, want) {
			w.t.Fatalf("%s: Since of side %d is %s, want %s", w.name, side, told(got), told(want))
		}
	}
}

func TestMoreTimesThanAFrontierMayHave(t *testing.T) { // P23.4: both spines stay, until there are fewer
	const count = api.MaxFront + 3
	list := stairs(at(1, 1), count)
	w := watch(t, "many", api.GroupDistinct, 0, 0, 1)
	for i, time := range list {
		w.acceptOnly(api.Up{Row: r(i), Time: time, Diff: 1})
	}
	w.ask(count, false, list...)
	w.advance(at(1, 0))
	w.sinceIs(times(at(1, 0)))
	w.advance(at(2000, 2000))
	w.sinceIs(times(at(1, 0)))
	for i := range 3 {
		w.step(api.Up{Row: r(i), Time: list[i], Diff: 1})
		if i < 2 {
			w.sinceIs(times(at(1, 0)))
		}
	}
	w.sinceIs(list[3:]) // just as many as there may be
	w.advance(at(2000, 2000))
	w.sinceIs(list[3:])
	w.accept(up(r(1), 2000, 2000, 1))
	w.step(api.Up{Row: r(3), Time: list[3], Diff: 1})
	w.sinceIs(list[4:])
	w.work(100)
	w.advance()
	w.sinceIs(list[4:])
	for range 20 {
		w.stepOnly()
	}
	w.hold("twenty more")
	w.sinceIs(list[24:])
}

func TestFrontierAndTimesToDo(t *testing.T) { // P23.4: the frontier's times and those that are to do are counted together
	long := stairs(at(10, 10), api.MaxFront)
	w := watch(t, "as many times as may be", api.GroupDistinct, 0, 0, 1)
	w.accept(up(r("beside"), 0, 2000, 1), up(r("within"), 10, 10+api.MaxFront, 1))
	w.advance(long...)
	w.sinceIs(times(at(0, 0))) // one more than there may be
	w.ask(2, true, at(0, 2000), at(10, 10+api.MaxFront))
	w.step(up(r("beside"), 0, 2000, 1))
	w.sinceIs(long)
	w.none()
	w.stays(append(long, at(3000, 0)), api.ErrMany)
	w.advance(long[1:]...)
	w.sinceIs(append(times(at(10, 10+api.MaxFront)), long[1:]...))
	w.step(up(r("within"), 10, 10+api.MaxFront, 1))
	w.sinceIs(long[1:])
}

// heavy is a fold whose sides have so many changes each, none of which is merged yet with all others.
func heavy(t *testing.T, name string, first, second int) *watched {
	t.Helper()
	w := watch(t, name, api.GroupDistinct, 0, 0, 1)
	for i := range first {
		diff := 0
		if i < second {
			diff = 1
		}
		w.accept(up(r(i), i%3, 0, diff))
	}
	w.advance(at(3, 0))
	w.all()
	if w.f.Side(0).Total() != first || w.f.Side(1).Total() != min(first, second) {
		t.Fatalf("%s: Total %d, %d", name, w.f.Side(0).Total(), w.f.Side(1).Total())
	}
	return w
}

func TestWork(t *testing.T) { // P23.4: no fuel, fuel below 0, too little, just enough, more than enough; what side 0 leaves is side 1's
	for _, k := range []struct{ first, second int }{{0, 0}, {4, 0}, {1, 1}, {7, 5}, {6, 3}, {8, 8}, {13, 13}} {
		w := heavy(t, "needs", k.first, k.second)
		left, _ := w.spines[0].Work(1000)
		rest, _ := w.spines[1].Work(left)
		all, ofZero := 1000-rest, 1000-left
		for _, fuel := range []int{low, -1, 0, 1, 2, ofZero - 1, ofZero, ofZero + 1, all - 1, all, all + 1, 1000, high} {
			w := heavy(t, fmt.Sprint(k, " with ", fuel), k.first, k.second)
			wasZero, wasOne := w.f.Side(0).Still(), w.f.Side(1).Still()
			left := w.work(fuel)
			if want := max(0, max(0, fuel)-all); left != want {
				t.Fatalf("%v: Work(%d) leaves %d, want %d", k, fuel, left, want)
			}
			if fuel <= 0 && (w.f.Side(0).Still() != wasZero || w.f.Side(1).Still() != wasOne) {
				t.Fatalf("%v: Work(%d) does something", k, fuel)
			}
			if fuel > 0 && fuel > all && !w.f.Still() {
				t.Fatalf("%v: behind Work(%d) it is not still", k, fuel)
			}
			if fuel > 0 && fuel < ofZero && w.f.Side(0).Still() {
				t.Fatalf("%v: behind Work(%d) side 0 is still", k, fuel)
			}
			if fuel > 0 && fuel <= ofZero && w.f.Side(1).Still() != wasOne {
				t.Fatalf("%v: Work(%d) reaches side 1", k, fuel)
			}
			if fuel > 0 && w.work(all+1) < 1 {
				t.Fatalf("%v: behind Work(%d) more is to be done than ever was", k, fuel)
			}
			w.none()
		}
	}
}

func TestWorkInBits(t *testing.T) { // P23.4: a bit at a time comes to the same as all at once
	w := heavy(t, "bits", 11, 9)
	for i := 0; !w.f.Still(); i++ {
		w.work(1)
		if i > 1000 {
			t.Fatal("it is never still")
		}
	}
	for side, count := range []int{9, 9} { // those with a Diff of 0 are gone
		if batches := w.f.Side(side).Batches(); len(batches) != 1 || batches[0].Len() != count {
			t.Fatalf("side %d has %d batches", side, len(batches))
		}
	}
	if left := w.work(7); left != 7 {
		t.Fatalf("of a still one 7 leaves %d", left)
	}
	w.accept(up(r(10), 9, 9, 2), up(r(0), 9, 9, -1))
	w.advance(at(10, 10))
	w.step(up(r(0), 9, 9, -1))
	w.step(up(r(10), 9, 9, 1))
	w.none()
}

func TestStill(t *testing.T) { // P23.4: of a fold that never had any, ahead of Work, and behind it; both sides are asked
	w := watch(t, "still", api.GroupCount, 1, 0, 1)
	ask := func(zero, one bool) {
		t.Helper()
		if w.f.Side(0).Still() != zero || w.f.Side(1).Still() != one || w.f.Still() != (zero && one) {
			t.Fatalf("Still is %v; of the sides %v, %v", w.f.Still(), w.f.Side(0).Still(), w.f.Side(1).Still())
		}
	}
	ask(true, true)
	w.accept(up(r(1), 0, 0, 1))
	ask(true, true) // one batch
	w.accept(up(r(2), 0, 0, 1))
	ask(false, true)
	w.work(0)
	ask(false, true)
	w.work(100)
	ask(true, true)
	w.advance(at(0, 0))
	ask(true, true)
	w.advance(at(1, 0)) // (0, 0) is to do: the spines stand where they stood
	ask(true, true)
	w.step(up(r(1, 1), 0, 0, 1))
	ask(true, true)
	w.step(up(r(2, 1), 0, 0, 1)) // now they do not, and each has some
	ask(false, false)
	w.work(2)
	ask(true, false)
	w.work(100)
	ask(true, true)
	w.refuses(up(r(1), 0, 0, 1), api.ErrTime)
	w.none()
	ask(true, true)
}

func TestSides(t *testing.T) { // P23.4: what came in, what came out; always the same spines; nil, where there is none
	w := busy(t, "sides")
	zero, one := w.f.Side(0), w.f.Side(1)
	if zero == nil || one == nil || zero == one {
		t.Fatal("they are not two spines")
	}
	for _, side := range []int{low, low + 1, -1 << 32, -2, -1, 2, 3, 1 << 32, high - 1, high} {
		if w.f.Side(side) != nil {
			t.Fatalf("Side(%d) is not nil", side)
		}
		w.hold(fmt.Sprintf("Side(%d)", side))
	}
	w.work(1000)
	w.step(up(r(2, 2), 1, 0, 1))
	w.advance(at(1, 3), at(3, 1))
	w.step(up(r(1, 4), 1, 2, -1), up(r(1, 5), 1, 2, 1))
	w.work(1000)
	if w.f.Side(0) != zero || w.f.Side(1) != one {
		t.Fatal("they are others now")
	}
	// The frontier is (1, 3), (3, 1): for (0, 0), (0, 1) and (1, 0) stands (1, 1), for (1, 2) it stands itself.
	in := ups(up(r(1, "a"), 1, 1, 1), up(r(1, "c"), 1, 1, 3), up(r(1, "d"), 1, 2, 1), up(r(2, "b"), 1, 1, 2), up(r(4, "e"), 5, 1, 1))
	out := ups(up(r(1, 4), 1, 1, 1), up(r(1, 4), 1, 2, -1), up(r(1, 5), 1, 2, 1), up(r(2, 2), 1, 1, 1))
	if !slices.EqualFunc(zero.Ups(), in, same) || !slices.EqualFunc(one.Ups(), out, same) {
		t.Fatalf("there lie %v and %v", zero.Ups(), one.Ups())
	}
	if zero.Total() != 5 || one.Total() != 6 {
		t.Fatalf("Total %d, %d", zero.Total(), one.Total())
	}
}

// storm calls everything, at many arguments: it is asked only that all ends, and that beside an error nothing is told.
func storm(t *testing.T, f *fold.Fold, cols int) {
	t.Helper()
	x := chance(77)
	for i := range 300 {
		f.Accept(api.Up{Row: wide(cols, x.below(3)), Time: at(i/10, x.below(3)), Diff: []int{1, high, low, -1}[x.below(4)]})
		f.Accept(up(wide(x.below(4), 0), x.below(40)-1, x.below(40)-1, 1))
		if x.below(5) == 0 {
			f.Advance(times(at(i/10, x.below(3)), at(i/10+1, 0)))
			f.Advance(times(at(i/10, 0)))
		}
		if left, e := f.Work(x.below(20) - 1); e != api.OK && left != 0 {
			t.Fatalf("Work: %d beside error %d", left, int(e))
		}
		if out, did, e := f.Step(); e != api.OK && (len(out) > 0 || did) {
			t.Fatalf("Step: %v, %v beside error %d", out, did, int(e))
		}
		f.Todo()
		f.Due()
		f.Lower()
		f.Still()
		for side := -1; side < 3; side++ {
			if s := f.Side(side); s != nil {
				s.Ups()
				s.Still()
				s.At(at(99, 99))
			}
		}
	}
	f.Advance(nil)
	for range f.Todo() + 5 {
		f.Step()
	}
}

func TestStepsWithErrors(t *testing.T) { // P23.3: group.Make's and zset's errors; sums that are too great or too small, and those that just fit
	for _, k := range []struct {
		kind, key, n, cols int
		in                 []api.Up // at (0, 0) what is there already, told by a Step; then what is asked at (1, 0)
		want               api.Errno
		tells              []api.Up
	}{
		{api.GroupSum, 1, 2, 2, ups(up(r(1, 5), 1, 0, 1)), api.ErrRange, nil},
		{api.GroupSum, 1, -1, 2, ups(up(r(1, 5), 1, 0, 1)), api.ErrRange, nil},
		{api.GroupSum, 1, high, 2, ups(up(r(1, 5), 1, 0, 1)), api.ErrRange, nil},
		{api.GroupSum, 1, low, 2, ups(up(r(1, 5), 1, 0, 1)), api.ErrRange, nil},
		{api.GroupSum, 0, 0, 0, ups(up(nil, 1, 0, 1)), api.ErrRange, nil},
		{api.GroupSum, 1, 2, 2, ups(up(r(1, 5), 1, 0, 0)), api.OK, nil}, // no row is asked
		{api.GroupSum, 1, 1, 2, ups(up(r(1, "5"), 1, 0, 1)), api.ErrType, nil},
		{api.GroupSum, 1, 1, 2, ups(up(r(1, odd(7)), 1, 0, 1)), api.ErrType, nil},
		{api.GroupSum, 1, 1, 2, ups(up(r(1, "5"), 1, 0, 1), up(r(1, high), 1, 0, 2)), api.ErrType, nil},
		{api.GroupSum, 1, 1, 2, ups(up(r(1, high), 1, 0, 1)), api.OK, ups(up(r(1, high), 1, 0, 1))},
		{api.GroupSum, 1, 1, 2, ups(up(r(1, high), 1, 0, 2)), api.ErrOver, nil},
		{api.GroupSum, 1, 1, 2, ups(up(r(1, low), 1, 0, 1)), api.OK, ups(up(r(1, low), 1, 0, 1))},
		{api.GroupSum, 1, 1, 2, ups(up(r(1, low), 1, 0, -1)), api.ErrOver, nil},
		{api.GroupSum, 1, 1, 2, ups(up(r(1, high), 1, 0, 1), up(r(1, 1), 1, 0, 1)), api.ErrOver, nil},
		{api.GroupSum, 1, 1, 2, ups(up(r(1, high-1), 1, 0, 1), up(r(1, 1), 1, 0, 1)), api.OK, ups(up(r(1, high), 1, 0, 1))},
		{api.GroupSum, 1, 1, 2, ups(up(r(1, 1), 0, 0, 1), up(r(1, high), 1, 0, 1)), api.ErrOver, nil},
		{api.GroupSum, 1, 1, 2, ups(up(r(1, 1), 0, 0, 1), up(r(1, high), 1, 0, 1), up(r(1, 1), 1, 0, -1)), api.OK, ups(up(r(1, 1), 1, 0, -1), up(r(1, high), 1, 0, 1))},
		{api.GroupCount, 0, 0, 1, ups(up(r(1), 1, 0, high)), api.OK, ups(up(r(high), 1, 0, 1))},
		{api.GroupCount, 0, 0, 1, ups(up(r(1), 1, 0, high), up(r(2), 1, 0, 1)), api.ErrOver, nil},
		{api.GroupCount, 0, 0, 1, ups(up(r(1), 1, 0, low), up(r(2), 1, 0, -1)), api.ErrOver, nil},
		{api.GroupCount, 0, 0, 1, ups(up(r(1), 1, 0, low+1), up(r(2), 1, 0, -1)), api.OK, ups(up(r(low), 1, 0, 1))},
		{api.GroupCount, 0, 0, 1, ups(up(r(1), 0, 0, high), up(r(2), 1, 0, 1)), api.ErrOver, nil},
		{api.GroupMin, 0, 0, 1, ups(up(r(1), 0, 0, high), up(r(1), 1, 0, 1)), api.ErrOver, nil}, // what there is of one row is too much
		{api.GroupMax, 0, 0, 1, ups(up(r(1), 0, 0, low), up(r(1), 1, 0, -1)), api.ErrOver, nil},
		{api.GroupDistinct, 0, 0, 1, ups(up(r(1), 0, 0, high), up(r(1), 1, 0, 1)), api.ErrOver, nil},
		{api.GroupDistinct, 0, 0, 1, ups(up(r(1), 0, 0, high), up(r(2), 1, 0, high)), api.OK, ups(up(r(2), 1, 0, 1))},
		{api.GroupTop, 0, 5, 1, ups(up(r(1), 0, 0, high), up(r(1), 1, 0, high)), api.ErrOver, nil},
		{api.GroupTop, 0, 5, 1, ups(up(r(1), 0, 0, high), up(r(2), 1, 0, high)), api.OK, nil},
	} {
		f, _ := fold.New(k.kind, k.key, k.n, k.cols)
		for _, u := range k.in {
			if e := f.Accept(u); e != api.OK {
				t.Fatalf("%+v: error %d", k, int(e))
			}
		}
		f.Advance(times(at(1, 0)))
		for f.Due() {
			if _, did, e := f.Step(); !did || e != api.OK {
				t.Fatalf("%+v: error %d", k, int(e))
			}
		}
		f.Advance(times(at(2, 0)))
		out, did, e := f.Step()
		if e != k.want || did != (e == api.OK) || !slices.EqualFunc(out, k.tells, same) {
			t.Errorf("%+v: Step: %v, %v, error %d", k, out, did, int(e))
		}
		storm(t, f, k.cols)
	}
}

func TestStepsThatNeverEndInErrors(t *testing.T) { // P23.3: who goes on while something is due comes to an end, also behind errors
	f, _ := fold.New(api.GroupSum, 1, 1, 2)
	for i := range 20 {
		f.Accept(up(r(i%3, "no number"), i, 0, 1))
	}
	f.Advance(nil)
	for i := 0; f.Due(); i++ {
		if out, did, e := f.Step(); e != api.ErrType || did || len(out) > 0 {
			t.Fatalf("%v, %v, error %d", out, did, int(e))
		}
		if i > 1000 {
			t.Fatal("it never ends")
		}
	}
	storm(t, f, 2)
}

func TestSpinesThatBreak(t *testing.T) { // P23.2, P23.4: spine.Insert's and spine.Work's error, told when the spine tells it
	f, _ := fold.New(api.GroupCount, 1, 0, 1)
	twin, _ := spine.New(1)
	broke := false
	for i := 0; i < 20 && !broke; i++ {
		want := twin.Insert(ups(up(r(1), 0, 0, high)))
		if e := f.Accept(up(r(1), 0, 0, high)); e != want {
			t.Fatalf("number %d: error %d, want %d", i, int(e), int(want))
		}
		broke = want != api.OK
	}
	if !broke {
		t.Fatal("it never breaks")
	}
	if left, e := f.Work(50); left != 0 || e != api.ErrOver || f.Still() {
		t.Fatalf("Work: %d, error %d, Still %v", left, int(e), f.Still())
	}
	storm(t, f, 1)

	f, _ = fold.New(api.GroupCount, 1, 0, 1) // it breaks while it is worked on
	f.Accept(up(r(1), 0, 0, low))
	if e := f.Accept(up(r(1), 0, 0, -1)); e != api.OK {
		t.Fatalf("error %d", int(e))
	}
	if left, e := f.Work(0); left != 0 || e != api.OK {
		t.Fatalf("Work: %d, error %d", left, int(e))
	}
	if left, e := f.Work(50); left != 0 || e != api.ErrOver || f.Still() {
		t.Fatalf("Work: %d, error %d, Still %v", left, int(e), f.Still())
	}
	if left, e := f.Work(0); left != 0 || e != api.ErrOver {
		t.Fatalf("Work: %d, error %d", left, int(e))
	}
	storm(t, f, 1)
}

func TestFarRowsAreNotReckoned(t *testing.T) { // P23.3: of other keys, and at other times, nothing is too great
	w := watch(t, "far", api.GroupCount, 1, 0, 2)
	w.accept(up(r(1, "a"), 0, 0, high), up(r(2, "a"), 0, 0, high), up(r(2, "b"), 5, 0, high), up(r(3, "a"), 0, 0, low))
	w.advance(at(4, 0))
	w.step(up(r(1, high), 0, 0, 1))
	w.step(up(r(2, high), 0, 0, 1))
	w.step(up(r(3, low), 0, 0, 1))
	w.none()
}

// chance tells numbers that follow from one alone: the same ones whenever it is made.
type chance uint64

func (x *chance) below(bound int) int {
	*x = *x*6364136223846793005 + 1442695040888963407
	return int(uint64(*x)>>33) % bound
}

// value is one of few, with something or other in the field that plays no part.
func (x *chance) value() api.Val {
	switch x.below(8) {
	case 0:
		return api.Val{Kind: api.KindInt, Int: 0, Str: "beside"}
	case 1, 2, 3:
		return n(x.below(3))
	case 4:
		return api.Val{Kind: api.KindStr, Str: "a", Int: x.below(2)}
	case 5, 6:
		return s([]string{"", "a"}[x.below(2)])
	}
	return odd(7)
}

// row has as many values as a fold asks for, and a number where it is added; now and then, if it may be wrong, another length.
func (x *chance) row(w *watched, wild bool) api.Row {
	length := w.cols
	if wild && x.below(12) == 0 {
		length = x.below(w.cols + 3)
	}
	var l api.Row
	for i := range length {
		v := x.value()
		if w.kind == api.GroupSum && i == w.n {
			v = n(x.below(5) - 2)
		}
		l = append(l, v)
	}
	return l
}

// time is one in advance of f; now and then, if it may be wrong, it is any.
func (x *chance) time(f []api.Time, wild bool) api.Time {
	t := at(x.below(4), x.below(4))
	if wild && x.below(10) == 0 {
		return []api.Time{t, at(-1, 3), at(3, -1), at(api.MaxTime+1, 3), at(low, high), at(api.MaxTime, api.MaxTime)}[x.below(6)]
	}
	if len(f) == 0 {
		return t
	}
	least := f[x.below(len(f))]
	return at(least.Epoch+t.Epoch, least.Round+t.Round)
}

// change is one that may come; one in four takes back what came before it.
func (x *chance) change(w *watched, wild bool) api.Up {
	u := api.Up{Row: x.row(w, wild), Time: x.time(w.front, wild), Diff: x.below(6) - 2}
	if len(w.accepted) > 0 && x.below(4) == 0 {
		past := w.accepted[x.below(len(w.accepted))]
		u.Row, u.Diff = slices.Clone(past.Row), -past.Diff
	}
	return u
}

// front is f, or a bit farther on; now and then, if it may be wrong, it is any list.
func (x *chance) front(f []api.Time, wild bool) []api.Time {
	if wild && x.below(4) == 0 {
		var l []api.Time
		for range 1 + x.below(4) {
			l = append(l, x.time(f, true))
		}
		return l
	}
	var l []api.Time
	for _, t := range f {
		l = append(l, at(t.Epoch+x.below(2), t.Round+x.below(2)))
		if x.below(3) == 0 {
			l = append(l, at(t.Epoch+2, t.Round), at(t.Epoch, t.Round+3))
		}
	}
	l = front.New(l)
	return l[:min(len(l), 4)]
}

// call is one that is drawn. More is accepted for a while, then more is done.
func (x *chance) call(w *watched, wild bool) {
	w.t.Helper()
	accepts := 4
	if len(w.calls)/40%2 == 0 {
		accepts = 8
	}
	switch draw := x.below(14); {
	case draw < accepts:
		w.acceptOnly(x.change(w, wild))
	case draw < 10:
		w.stepOnly()
	case draw < 12:
		w.workOnly(x.below(12) - 1)
	default:
		w.advanceOnly(x.front(w.front, wild))
	}
}

// drawn is a fold of a kind, with columns, a key and a number that are drawn.
func (x *chance) drawn(t *testing.T, name string, kind int) *watched {
	t.Helper()
	cols := x.below(4)
	count := 1 + x.below(4)
	if kind == api.GroupSum {
		cols = 1 + x.below(3)
		count = x.below(cols)
	}
	key := x.below(cols + 1)
	return watch(t, fmt.Sprint(name, " kind ", kind, " key ", key, " n ", count, " cols ", cols), kind, key, count, cols)
}

// run does calls that are drawn, and asks all that may be asked behind each of them.
func run(t *testing.T, seed uint64, kind, calls int, wild bool) *watched {
	t.Helper()
	x := chance(seed)
	w := x.drawn(t, fmt.Sprint("seed ", seed), kind)
	for i := range calls {
		x.call(w, wild)
		w.hold(fmt.Sprint("call ", i))
	}
	return w
}

func TestCallsThatAreDrawn(t *testing.T) { // P23.1 to P23.4: held against plain lists behind each call
	for _, wild := range []bool{false, true} {
		most, steps, fewer, todo := 0, 0, 0, 0
		for i := range 120 {
			w := run(t, uint64(i+1), i%api.Groups, 60, wild)
			w.all()
			steps += w.steps
		}
		for i := range 30 {
			w := run(t, uint64(i+1000), i%api.Groups, 250, wild)
			most, fewer, todo = max(most, len(w.accepted)), fewer+w.fewer, todo+len(w.todo)
			w.all()
			steps += w.steps
			w.advance()
			w.all()
			w.ask(0, false)
		}
		if most < 80 || steps < 3000 || fewer < 50 || todo < 300 {
			t.Errorf("wild %v: at most %d were accepted, %d steps were done, a spine told fewer times %d times, %d were to do", wild, most, steps, fewer, todo)
		}
	}
}

// holdMeaning asks that what was told is, at each of some times that is not in advance of the frontier, what group.Make makes of what was accepted. Nothing may be due.
func (w *watched) holdMeaning(l []api.Time) {
	w.t.Helper()
	if w.f.Due() {
		w.t.Fatalf("%s: something is due", w.name)
	}
	for _, time := range l {
		if advanced(w.front, time) {
			continue
		}
		there, e := zset.At(w.accepted, time)
		if e != api.OK {
			w.t.Fatalf("%s: error %d", w.name, int(e))
		}
		want, wantErr := group.Make(w.kind, w.key, w.n, there)
		got, e := zset.At(w.told, time)
		if e != api.OK || wantErr != api.OK || !slices.EqualFunc(got, want, sameCount) {
			w.t.Fatalf("%s: at %v there is %s, %d; group.Make makes %s, %d", w.name, time, told(got), int(e), told(want), int(wantErr))
		}
	}
	for _, u := range w.told {
		if advanced(w.front, u.Time) {
			w.t.Fatalf("%s: %v was told, in advance of %v", w.name, u, w.front)
		}
	}
}

// manyTimes are some at which changes come, and some at which none does.
func manyTimes() []api.Time {
	return append(grid(14), at(20, 3), at(3, 20), at(40, 40), at(api.MaxTime, 2), at(api.MaxTime, api.MaxTime))
}

func TestMeaning(t *testing.T) { // P23.5: over long rows of calls with Advance, Step and Work among them, at many times, of each group
	l := manyTimes()
	for i := range 24 {
		x := chance(300 + i)
		w := x.drawn(t, fmt.Sprint("seed ", 300+i), i%api.Groups)
		closed := 0
		for call := range 500 {
			x.call(w, i%3 == 0)
			if call%50 == 0 {
				for w.f.Due() {
					w.stepOnly()
				}
				w.holdMeaning(l)
			}
		}
		for w.f.Due() {
			w.stepOnly()
		}
		w.hold("at the end")
		w.holdMeaning(l)
		for _, time := range l {
			if !advanced(w.front, time) {
				closed++
			}
		}
		if len(w.accepted) < 60 || closed < 20 {
			t.Errorf("%s: %d were accepted, %d times are closed", w.name, len(w.accepted), closed)
		}
		w.advanceOnly(nil)
		w.all()
		w.holdMeaning(l)
	}
}

func TestSteppedOrNot(t *testing.T) { // P23.5: two folds with the same Accepts, of which one is advanced, stepped and worked on again and again and the other one only in the end, have told the same
	l := manyTimes()
	for i := range 24 {
		x := chance(500 + i)
		often := x.drawn(t, fmt.Sprint("seed ", 500+i), i%api.Groups)
		late := watch(t, "late", often.kind, often.key, often.n, often.cols)
		merged := false
		for range 140 {
			u := x.change(often, false)
			often.acceptOnly(u)
			late.acceptOnly(u)
			if x.below(3) == 0 {
				often.advanceOnly(x.front(often.front, false))
			}
			for range x.below(4) {
				often.stepOnly()
			}
			if x.below(2) == 0 {
				often.workOnly(x.below(200))
			}
			merged = merged || len(often.f.Side(0).Ups()) < len(late.f.Side(0).Ups())
		}
		for _, w := range []*watched{often, late} {
			w.advanceOnly(nil)
			for w.f.Due() {
				w.stepOnly()
			}
			w.ask(0, false)
			w.holdMeaning(l)
		}
		for _, time := range append(l, late.times()...) {
			a, _ := zset.At(often.told, time)
			b, _ := zset.At(late.told, time)
			if !slices.EqualFunc(a, b, sameCount) {
				t.Fatalf("%s: at %v: %s and %s", often.name, time, told(a), told(b))
			}
		}
		a, _ := zset.Consolidate(often.told)
		b, _ := zset.Consolidate(late.told)
		if !zset.Same(a, b) || !merged || len(a) == 0 && often.kind != api.GroupTop {
			t.Errorf("%s: %s and %s, merged %v", often.name, told(a), told(b), merged)
		}
	}
}

func TestMany(t *testing.T) { // P23.2, P23.3: many keys, of which each is looked at by itself, at its own times
	const keys = 20000
	f, _ := fold.New(api.GroupCount, 1, 0, 2)
	for i := range keys {
		i = i * 1237 % keys
		if e := f.Accept(up(r(i, "a"), i%50, i%7, i+1)); e != api.OK {
			t.Fatalf("error %d", int(e))
		}
	}
	if f.Todo() != keys || f.Due() || !slices.Equal(f.Lower(), times(at(0, 0))) {
		t.Fatalf("Todo %d, Due %v, Lower %v", f.Todo(), f.Due(), f.Lower())
	}
	f.Advance(times(at(100, 0)))
	last := at(-1, 0)
	for i := range keys {
		out, did, e := f.Step()
		if !did || e != api.OK || len(out) != 1 || out[0].Diff != 1 || len(out[0].Row) != 2 {
			t.Fatalf("Step %d: %v, %v, error %d", i, out, did, int(e))
		}
		key, u := out[0].Row[0].Int, out[0]
		if !same(u, up(r(key, key+1), key%50, key%7, 1)) || moment.Order(last, u.Time) > 0 {
			t.Fatalf("Step %d: %v behind %v", i, u, last)
		}
		last = u.Time
	}
	if f.Todo() != 0 || f.Due() || f.Side(1).Total() != keys {
		t.Fatalf("Todo %d, Due %v, Total %d", f.Todo(), f.Due(), f.Side(1).Total())
	}
}

func TestAnswersHangOnTheFoldsCallsAlone(t *testing.T) { // from arguments alone: folds beside one another know nothing of each other
	a := watch(t, "one", api.GroupMax, 1, 0, 2)
	b := watch(t, "another", api.GroupMax, 1, 0, 2)
	c := watch(t, "a third", api.GroupMax, 1, 0, 2)
	x, y, z := chance(5), chance(5), chance(6)
	for range 200 {
		x.call(a, true)
		z.call(b, true)
		a.hold("drawn")
		b.hold("drawn")
	}
	for range 200 {
		y.call(c, true)
	}
	c.hold("at the end")
	if !slices.EqualFunc(a.told, c.told, same) || !slices.EqualFunc(a.todo, c.todo, task.is) {
		t.Fatal("the same calls are drawn, and the folds differ")
	}
	a.all()
	b.all()
	c.all()
}

func TestAskingChangesNothing(t *testing.T) { // P23.4: Todo, Due, Lower, Still, Side and all that a side tells
	w := busy(t, "asked")
	for range 50 {
		w.f.Todo()
		w.f.Due()
		w.f.Lower()
		w.f.Still()
		for side := -1; side < 3; side++ {
			if s := w.f.Side(side); s != nil {
				s.Ups()
				s.Run(r(1))
				s.Batches()
				s.At(at(5, 5))
			}
		}
		w.hold("asked")
	}
	w.goesOn()
	w.none()
}

func FuzzFolds(f *testing.F) {
	f.Add(uint64(1), uint8(1), uint8(30), false)
	f.Add(uint64(2), uint8(0), uint8(90), true)
	f.Add(uint64(3), uint8(5), uint8(200), true)
	f.Fuzz(func(t *testing.T, seed uint64, kind, calls uint8, wild bool) {
		w := run(t, seed, int(kind)%api.Groups, int(calls), wild)
		w.all()
		w.holdMeaning(grid(8))
		w.advance()
		w.all()
		w.holdMeaning(grid(8))
	})
}

package front_test

import (
	"math"
	"slices"
	"testing"

	"runnel/api"
	"runnel/front"
	"runnel/moment"
)

func at(epoch, round int) api.Time { return api.Time{Epoch: epoch, Round: round} }

// list is the times of pairs of numbers.
func list(pairs ...int) []api.Time {
	var l []api.Time
	for i := 0; i < len(pairs); i += 2 {
		l = append(l, at(pairs[i], pairs[i+1]))
	}
	return l
}

// falling is a frontier of n times, from an epoch and down to a round on.
func falling(n, epoch, round int) []api.Time {
	var l []api.Time
	for i := range n {
		l = append(l, at(epoch+i, round+n-1-i))
	}
	return l
}

// subsets are all lists of some times of a square of side 3, each in some order and, every second one, with its first time again at its end.
func subsets() [][]api.Time {
	var all [][]api.Time
	for set := range 1 << 9 {
		var l []api.Time
		for i := range 9 {
			if k := (i*7 + set) % 9; set>>k&1 == 1 {
				l = append(l, at(k/3, k%3))
			}
		}
		if len(l) > 0 && set%2 == 1 {
			l = append(l, l[0])
		}
		all = append(all, l)
	}
	return all
}

// lists are ordinary ones, edges, and what Check does not take.
func lists() [][]api.Time {
	const low, high = math.MinInt, math.MaxInt
	return append(subsets(),
		list(api.MaxTime, 0, 0, api.MaxTime),
		list(api.MaxTime, api.MaxTime),
		list(api.MaxTime+1, 0, 0, api.MaxTime+1, 3, 3),
		list(-1, 5, 5, -1, 2, 2),
		list(low, high, high, low, 0, 0, -1, 1),
		list(low, low),
		list(high, high, high, high),
		list(high, low, high, high, high, 0),
		list(0, high, 1, high, low, high),
		falling(5, -2, -2),
	)
}

// square is all times of a square that is greater than that of subsets, and the far ones.
func square() []api.Time {
	var l []api.Time
	numbers := []int{math.MinInt, -1, 0, 1, 2, 3, api.MaxTime, api.MaxTime + 1, math.MaxInt}
	for _, epoch := range numbers {
		for _, round := range numbers {
			l = append(l, at(epoch, round))
		}
	}
	return l
}

// leastOf is New as the chapter says it, pair by pair.
func leastOf(l []api.Time) []api.Time {
	var least []api.Time
	for _, t := range l {
		other := func(u api.Time) bool { return u != t && moment.LessEq(u, t) }
		if !slices.ContainsFunc(l, other) && !slices.Contains(least, t) {
			least = append(least, t)
		}
	}
	slices.SortFunc(least, moment.Order)
	return least
}

func aheadOf(f []api.Time, t api.Time) bool {
	for _, u := range f {
		if moment.LessEq(u, t) {
			return true
		}
	}
	return false
}

func joinsOf(f, g []api.Time) []api.Time {
	var l []api.Time
	for _, a := range f {
		for _, b := range g {
			l = append(l, moment.Join(a, b))
		}
	}
	return l
}

func TestNew(t *testing.T) { // P5.1
	for _, c := range []struct{ l, want []api.Time }{
		{nil, nil},
		{[]api.Time{}, nil},
		{list(0, 0), list(0, 0)},
		{list(3, 4), list(3, 4)},
		{list(2, 0, 0, 2, 2, 2), list(0, 2, 2, 0)},
		{list(2, 0, 0, 2, 2, 2, 2, 0), list(0, 2, 2, 0)},
		{list(3, 4, 3, 4, 3, 4), list(3, 4)},
		{list(1, 1, 2, 0, 0, 2), list(0, 2, 1, 1, 2, 0)},
		{list(1, 3, 1, 2, 1, 5), list(1, 2)},                   // of one epoch the least round
		{list(3, 1, 2, 1, 5, 1), list(2, 1)},                   // of one round the least epoch
		{list(5, 5, 0, 0, 0, 9, 9, 0), list(0, 0)},             // one that is LessEq to all
		{list(4, 0, 3, 1, 2, 3, 1, 2), list(1, 2, 3, 1, 4, 0)}, // one that only the next one but one is LessEq to
		{list(api.MaxTime, 0, 0, api.MaxTime, api.MaxTime, api.MaxTime), list(0, api.MaxTime, api.MaxTime, 0)},
		{list(-1, 0, 0, -1, 0, 0), list(-1, 0, 0, -1)},
		{list(api.MaxTime+1, 1, api.MaxTime, 1), list(api.MaxTime, 1)},
		{list(math.MaxInt, math.MinInt, math.MinInt, math.MaxInt), list(math.MinInt, math.MaxInt, math.MaxInt, math.MinInt)},
		{list(math.MaxInt, math.MaxInt, math.MinInt, math.MinInt), list(math.MinInt, math.MinInt)},
	} {
		if got := front.New(c.l); !slices.Equal(got, c.want) {
			t.Errorf("New(%v) = %v, want %v", c.l, got, c.want)
		}
	}
}

func TestCheck(t *testing.T) { // P5.1
	full, over := falling(api.MaxFront, 0, 0), falling(api.MaxFront+1, 0, 0)
	turned := slices.Clone(full)
	slices.Reverse(turned)
	badLast := append(falling(api.MaxFront-1, 0, 0), at(api.MaxFront, -1))
	for _, c := range []struct {
		f    []api.Time
		want api.Errno
	}{
		{nil, api.OK},
		{[]api.Time{}, api.OK},
		{list(0, 0), api.OK},
		{list(0, 2, 2, 0), api.OK},
		{list(0, api.MaxTime, api.MaxTime, 0), api.OK},
		{list(api.MaxTime, api.MaxTime), api.OK},
		{full, api.OK},

		{over, api.ErrMany},
		{make([]api.Time, api.MaxFront+1), api.ErrMany},                       // also not New of itself
		{slices.Repeat(list(-1, api.MaxTime+1), api.MaxFront+1), api.ErrMany}, // also no times
		{append(slices.Clone(full), at(-1, 0)), api.ErrMany},                  // also one that is none
		{slices.Repeat(list(0, 0, 1, 1), api.MaxFront), api.ErrMany},          // few that come again
		{make([]api.Time, api.MaxFront), api.ErrForm},                         // just as many
		{slices.Repeat(list(0, math.MinInt), api.MaxFront), api.ErrTime},      // just as many
		{badLast, api.ErrTime},

		{list(-1, 0), api.ErrTime},
		{list(0, -1), api.ErrTime},
		{list(api.MaxTime+1, 0), api.ErrTime},
		{list(0, api.MaxTime+1), api.ErrTime},
		{list(math.MinInt, math.MaxInt, math.MaxInt, math.MinInt), api.ErrTime},
		{list(0, 2, 1, 1, 2, -1), api.ErrTime},      // the last one alone
		{list(2, 0, 0, 2, -1, 5), api.ErrTime},      // also out of order
		{list(-1, -1, -1, -1), api.ErrTime},         // also one that comes again
		{list(0, 0, 0, api.MaxTime+1), api.ErrTime}, // also one that is LessEq to it

		{turned, api.ErrForm},
		{list(2, 0, 0, 2), api.ErrForm}, // out of order
		{list(0, 2, 0, 2), api.ErrForm}, // one that comes again
		{list(0, 0, 0, 0), api.ErrForm},
		{list(0, 0, 1, 1), api.ErrForm}, // one that is LessEq to another
		{list(0, 1, 0, 2), api.ErrForm},
		{list(1, 0, 2, 0), api.ErrForm},
		{list(0, 2, 2, 0, 2, 2), api.ErrForm}, // the last one alone
		{list(0, 3, 1, 2, 2, 2), api.ErrForm},
	} {
		if got := front.Check(c.f); got != c.want {
			t.Errorf("Check(%v) = %d, want %d", c.f[:min(len(c.f), 5)], got, c.want)
		}
	}
}

func TestNewAndCheckOfLists(t *testing.T) { // P5.1: as the chapter says it, pair by pair
	for _, l := range lists() {
		least := leastOf(l)
		got := front.New(l)
		if !slices.Equal(got, least) {
			t.Fatalf("New(%v) = %v, want %v", l, got, least)
		}
		if again := front.New(got); !slices.Equal(again, got) {
			t.Fatalf("New(%v) = %v", got, again)
		}
		want := api.OK
		if slices.ContainsFunc(l, func(t api.Time) bool { return moment.Check(t) != api.OK }) {
			want = api.ErrTime
		} else if !slices.Equal(l, least) {
			want = api.ErrForm
		}
		if e := front.Check(l); e != want {
			t.Fatalf("Check(%v) = %d, want %d", l, e, want)
		}
	}
}

func TestAhead(t *testing.T) { // P5.2
	f := list(0, 2, 2, 0)
	for _, c := range []struct {
		f    []api.Time
		t    api.Time
		want bool
	}{
		{nil, at(0, 0), false},
		{nil, at(api.MaxTime, api.MaxTime), false},
		{nil, at(math.MaxInt, math.MaxInt), false},
		{list(0, 0), at(0, 0), true},
		{list(1, 1), at(0, 0), false},
		{list(1, 1), at(1, 0), false},
		{list(1, 1), at(0, 1), false},
		{list(1, 1), at(0, 9), false},
		{f, at(0, 2), true}, {f, at(2, 0), true},
		{f, at(0, 5), true}, {f, at(3, 0), true}, {f, at(2, 2), true}, {f, at(1, 2), true},
		{f, at(1, 1), false}, {f, at(0, 0), false}, {f, at(0, 1), false}, {f, at(1, 0), false},
		{f, at(-1, 9), false}, {f, at(9, -1), false},
		{list(2, 0, 0, 2), at(0, 3), true}, // out of order
		{list(2, 0, 0, 2), at(3, 0), true},
		{list(5, 5, 1, 1, 5, 5), at(1, 1), true}, // no frontier
		{list(5, 5, 1, 1, 5, 5), at(0, 9), false},
		{list(api.MaxTime, api.MaxTime), at(api.MaxTime, api.MaxTime), true},
		{list(api.MaxTime, api.MaxTime), at(api.MaxTime, api.MaxTime-1), false},
		{list(-1, -1), at(0, 0), true}, // no times
		{list(api.MaxTime+1, 0), at(api.MaxTime, 0), false},
		{list(math.MinInt, math.MinInt), at(math.MinInt, math.MinInt), true},
		{list(math.MaxInt, math.MaxInt), at(math.MaxInt, math.MaxInt), true},
	} {
		if got := front.Ahead(c.f, c.t); got != c.want {
			t.Errorf("Ahead(%v, %v) = %v", c.f, c.t, got)
		}
	}
	for _, l := range lists() {
		for _, u := range square() {
			if got := front.Ahead(l, u); got != aheadOf(l, u) {
				t.Fatalf("Ahead(%v, %v) = %v", l, u, got)
			}
		}
	}
}

func TestTwo(t *testing.T) { // P5.2
	f, turned := list(0, 2, 2, 0), list(2, 0, 0, 2)
	for _, c := range []struct {
		f, g, meet, join []api.Time
		fg, gf, same     bool
	}{
		{nil, nil, nil, nil, true, true, true},
		{nil, []api.Time{}, nil, nil, true, true, true},
		{f, nil, f, nil, true, false, false}, // nothing comes any more: behind all
		{list(0, 0), nil, list(0, 0), nil, true, false, false},
		{f, f, f, f, true, true, true},
		{f, turned, f, f, true, true, true},
		{turned, turned, f, f, true, true, true},
		{f, list(2, 2, 0, 2, 2, 0, 0, 2), f, f, true, true, true}, // one with others behind it
		{list(1, 1), list(1, 1, 1, 1, 4, 1), list(1, 1), list(1, 1), true, true, true},
		{list(0, 0), f, list(0, 0), f, true, false, false},
		{f, list(2, 1), f, list(2, 1), true, false, false},
		{f, list(1, 1), list(0, 2, 1, 1, 2, 0), list(1, 2, 2, 1), false, false, false},
		{turned, list(1, 1, 7, 7), list(0, 2, 1, 1, 2, 0), list(1, 2, 2, 1), false, false, false},
		{list(0, 2), list(2, 0), f, list(2, 2), false, false, false},
		{list(0, 1), list(0, 2), list(0, 1), list(0, 2), true, false, false},
		{list(1, 0), list(2, 0), list(1, 0), list(2, 0), true, false, false},
		{f, list(0, 2), f, list(0, 2), true, false, false}, // a part of it
		{f, list(0, 2, 3, 0), f, list(0, 2, 3, 0), true, false, false},
		{list(0, 6, 2, 4, 4, 2), list(1, 5, 3, 3, 5, 1), list(0, 6, 1, 5, 2, 4, 3, 3, 4, 2, 5, 1), list(1, 6, 2, 5, 3, 4, 4, 3, 5, 2), false, false, false},
		{list(api.MaxTime, 0), list(0, api.MaxTime), list(0, api.MaxTime, api.MaxTime, 0), list(api.MaxTime, api.MaxTime), false, false, false},
		{list(api.MaxTime, api.MaxTime), list(api.MaxTime+1, api.MaxTime), list(api.MaxTime, api.MaxTime), list(api.MaxTime+1, api.MaxTime), true, false, false},
		{list(-1, -1), list(0, 0), list(-1, -1), list(0, 0), true, false, false},
		{list(math.MinInt, math.MaxInt), list(math.MaxInt, math.MinInt), list(math.MinInt, math.MaxInt, math.MaxInt, math.MinInt), list(math.MaxInt, math.MaxInt), false, false, false},
	} {
		for range 2 {
			if got := front.LessEq(c.f, c.g); got != c.fg {
				t.Errorf("LessEq(%v, %v) = %v", c.f, c.g, got)
			}
			if got := front.Meet(c.f, c.g); !slices.Equal(got, c.meet) {
				t.Errorf("Meet(%v, %v) = %v, want %v", c.f, c.g, got, c.meet)
			}
			if got := front.Join(c.f, c.g); !slices.Equal(got, c.join) {
				t.Errorf("Join(%v, %v) = %v, want %v", c.f, c.g, got, c.join)
			}
			if got := front.Same(c.f, c.g); got != c.same {
				t.Errorf("Same(%v, %v) = %v", c.f, c.g, got)
			}
			c.f, c.g, c.fg, c.gf = c.g, c.f, c.gf, c.fg
		}
	}
}

// holdTwo asks what the chapter says of two lists, pair by pair.
func holdTwo(t *testing.T, f, g []api.Time) {
	t.Helper()
	lessEq := true
	for _, u := range g {
		lessEq = lessEq && aheadOf(f, u)
	}
	if got := front.LessEq(f, g); got != lessEq {
		t.Fatalf("LessEq(%v, %v) = %v", f, g, got)
	}
	if got, want := front.Meet(f, g), leastOf(slices.Concat(f, g)); !slices.Equal(got, want) {
		t.Fatalf("Meet(%v, %v) = %v, want %v", f, g, got, want)
	}
	if got, want := front.Join(f, g), leastOf(joinsOf(f, g)); !slices.Equal(got, want) {
		t.Fatalf("Join(%v, %v) = %v, want %v", f, g, got, want)
	}
	if got, want := front.Same(f, g), slices.Equal(leastOf(f), leastOf(g)); got != want {
		t.Fatalf("Same(%v, %v) = %v", f, g, got)
	}
}

// eachTwo goes through pairs of lists: each with some, by both sides.
func eachTwo(ask func(f, g []api.Time)) {
	all := lists()
	for i, f := range all {
		for k := i % 13; k < len(all); k += 13 {
			ask(f, all[k])
			ask(all[k], f)
		}
		ask(f, f)
	}
}

func TestTwoOfLists(t *testing.T) { // P5.2
	eachTwo(func(f, g []api.Time) { holdTwo(t, f, g) })
}

func TestInAdvanceOfMeetAndJoin(t *testing.T) { // P5.4
	times := square()
	eachTwo(func(f, g []api.Time) {
		meet, join := front.Meet(f, g), front.Join(f, g)
		for _, u := range times {
			ofF, ofG := front.Ahead(f, u), front.Ahead(g, u)
			if front.Ahead(meet, u) != (ofF || ofG) {
				t.Fatalf("%v: in advance of %v %v, of %v %v, and of Meet %v", u, f, ofF, g, ofG, meet)
			}
			if front.Ahead(join, u) != (ofF && ofG) {
				t.Fatalf("%v: in advance of %v %v, of %v %v, and of Join %v", u, f, ofF, g, ofG, join)
			}
		}
	})
}

func TestLessEqTellsWhoIsInAdvance(t *testing.T) { // P5.2: what is in advance of g is of f, just if LessEq(f, g)
	times := square()
	eachTwo(func(f, g []api.Time) {
		// The square has each time of the lists but some of those of falling.
		if slices.Contains(f, at(-2, 2)) || slices.Contains(g, at(-2, 2)) {
			return
		}
		leads := true
		for _, u := range times {
			leads = leads && (!front.Ahead(g, u) || front.Ahead(f, u))
		}
		if front.LessEq(f, g) != leads {
			t.Fatalf("LessEq(%v, %v) = %v", f, g, !leads)
		}
		if both := leads && front.LessEq(g, f); front.Same(f, g) != both {
			t.Fatalf("Same(%v, %v) = %v", f, g, !both)
		}
	})
}

func TestRep(t *testing.T) { // P5.3
	f := list(0, 2, 2, 0)
	for _, c := range []struct {
		f       []api.Time
		t, want api.Time
	}{
		{nil, at(1, 4), at(0, 0)},
		{[]api.Time{}, at(0, 0), at(0, 0)},
		{nil, at(-3, api.MaxTime+1), at(0, 0)},
		{nil, at(math.MinInt, math.MaxInt), at(0, 0)},
		{list(0, 0), at(0, 0), at(0, 0)},
		{list(0, 0), at(3, 1), at(3, 1)},
		{list(3, 3), at(1, 4), at(3, 4)},
		{list(3, 3), at(4, 1), at(4, 3)},
		{list(3, 3), at(0, 0), at(3, 3)},
		{list(3, 3), at(5, 6), at(5, 6)},
		{f, at(1, 1), at(1, 1)},
		{f, at(0, 0), at(0, 0)},
		{f, at(0, 5), at(0, 5)},
		{f, at(3, 0), at(3, 0)},
		{f, at(2, 2), at(2, 2)},
		{list(1, 4, 3, 2), at(0, 0), at(1, 2)},
		{list(1, 4, 3, 2), at(2, 0), at(2, 2)},
		{list(1, 4, 3, 2), at(0, 3), at(1, 3)},
		{list(3, 2, 1, 4), at(0, 3), at(1, 3)},             // out of order
		{list(3, 2, 9, 9, 1, 4, 3, 2), at(0, 3), at(1, 3)}, // no frontier
		{list(api.MaxTime, api.MaxTime), at(0, 0), at(api.MaxTime, api.MaxTime)},
		{list(0, api.MaxTime, api.MaxTime, 0), at(0, 7), at(0, 7)},
		{list(-5, -6), at(-9, -9), at(-5, -6)}, // no times
		{list(-5, -6), at(0, 0), at(0, 0)},
		{list(1, 1), at(math.MinInt, math.MaxInt), at(1, math.MaxInt)},
		{list(math.MaxInt, math.MinInt, math.MinInt, math.MaxInt), at(3, 4), at(3, 4)},
	} {
		if got := front.Rep(c.f, c.t); got != c.want {
			t.Errorf("Rep(%v, %v) = %v, want %v", c.f, c.t, got, c.want)
		}
	}
}

// repOf is Rep as the chapter says it.
func repOf(f []api.Time, t api.Time) api.Time {
	if len(f) == 0 {
		return at(0, 0)
	}
	rep := at(math.MaxInt, math.MaxInt)
	for _, u := range f {
		rep = moment.Meet(rep, moment.Join(t, u))
	}
	return rep
}

func TestRepStandsForATime(t *testing.T) { // P5.3, P5.5
	times := square()
	for _, f := range lists() {
		// The joins of times and f tell apart what any time in advance of f does, whether the square has them or not.
		advance := slices.Concat(f, joinsOf(f, times))
		for _, a := range times {
			rep := front.Rep(f, a)
			if rep != repOf(f, a) {
				t.Fatalf("Rep(%v, %v) = %v", f, a, rep)
			}
			if again := front.Rep(f, rep); again != rep {
				t.Fatalf("Rep(%v, %v) = %v, and of that %v", f, a, rep, again)
			}
			if len(f) > 0 && !moment.LessEq(a, rep) {
				t.Fatalf("Rep(%v, %v) = %v", f, a, rep)
			}
			for _, u := range advance {
				if moment.LessEq(a, u) != moment.LessEq(rep, u) || moment.Join(a, u) != moment.Join(rep, u) {
					t.Fatalf("Rep(%v, %v) = %v, which %v tells apart", f, a, rep, u)
				}
			}
		}
	}
}

func TestTimesThatNobodyTellsApartHaveOneRep(t *testing.T) { // P5.5
	var times []api.Time
	for k := range 25 {
		times = append(times, at(k/5, k%5))
	}
	for _, f := range subsets() {
		for _, a := range times {
			for _, b := range times {
				told := slices.ContainsFunc(times, func(u api.Time) bool {
					return front.Ahead(f, u) && moment.LessEq(a, u) != moment.LessEq(b, u)
				})
				if !told && front.Rep(f, a) != front.Rep(f, b) {
					t.Fatalf("%v, %v and %v: Rep %v and %v", f, a, b, front.Rep(f, a), front.Rep(f, b))
				}
			}
		}
	}
}

func FuzzFrontiers(f *testing.F) { // P5.1 to P5.3
	f.Add([]byte{2, 0, 0, 2, 2, 2}, []byte{1, 1}, int8(1), int8(1))
	f.Add([]byte{5, 200, 5, 3, 4, 200}, []byte{6, 0, 255, 255}, int8(-1), int8(100))
	f.Fuzz(func(t *testing.T, b, c []byte, epoch, round int8) {
		one, two := listOf(b), listOf(c)
		if got, want := front.New(one), leastOf(one); !slices.Equal(got, want) {
			t.Fatalf("New(%v) = %v, want %v", one, got, want)
		}
		holdTwo(t, one, two)
		u := at(int(epoch), int(round))
		if got := front.Rep(one, u); got != repOf(one, u) {
			t.Fatalf("Rep(%v, %v) = %v", one, u, got)
		}
		if got := front.Ahead(one, u); got != aheadOf(one, u) {
			t.Fatalf("Ahead(%v, %v) = %v", one, u, got)
		}
	})
}

func listOf(b []byte) []api.Time {
	b = b[:min(len(b), 32)]
	var l []api.Time
	for i := 1; i < len(b); i += 2 {
		l = append(l, at(int(int8(b[i-1])), int(int8(b[i]))))
	}
	return l
}

const many = 1 << 16

func TestManyTimes(t *testing.T) { // P5.1, P5.2: more than a frontier may have, of which none is ahead
	f, g := falling(many, 0, 0), falling(many, 1, 1)
	for _, l := range [][]api.Time{f, g} {
		slices.Reverse(l)
	}
	want := falling(many, 0, 0)
	if got := front.New(f); !slices.Equal(got, want) {
		t.Errorf("New: %d times", len(got))
	}
	if got := front.Meet(f, g); !slices.Equal(got, want) {
		t.Errorf("Meet: %d times", len(got))
	}
	if got := front.Join(f, g); !slices.Equal(got, falling(many, 1, 1)) {
		t.Errorf("Join: %d times", len(got))
	}
	if !front.LessEq(f, g) || front.LessEq(g, f) || front.Same(f, g) || !front.Same(f, want) {
		t.Error("LessEq, Same")
	}
	if e := front.Check(f); e != api.ErrMany {
		t.Errorf("Check = %d", e)
	}
	if got := front.Rep(f, at(-1, 5)); got != at(0, 5) {
		t.Errorf("Rep = %v", got)
	}
	if !front.Ahead(f, at(0, many-1)) || front.Ahead(f, at(0, many-2)) {
		t.Error("Ahead")
	}
}

func TestJoinOfFullFrontiersMayHaveMore(t *testing.T) { // P5.2: Join is New of all, however many they are
	var f, g, want []api.Time
	for i := range api.MaxFront {
		down := api.MaxFront - i
		f = append(f, at(2*i, 2*down))
		g = append(g, at(2*i+1, 2*down-1))
		want = append(want, at(2*i+1, 2*down))
		if i+1 < api.MaxFront {
			want = append(want, at(2*i+2, 2*down-1))
		}
	}
	if front.Check(f) != api.OK || front.Check(g) != api.OK {
		t.Fatal("no frontiers")
	}
	got := front.Join(f, g)
	if !slices.Equal(got, want) || front.Check(got) != api.ErrMany {
		t.Errorf("Join: %d times, want %d", len(got), len(want))
	}
	if got := front.Meet(f, g); len(got) != 2*api.MaxFront {
		t.Errorf("Meet: %d times", len(got))
	}
}

// roomy is the list with spare room behind it.
func roomy(l []api.Time) []api.Time {
	return append(slices.Clone(l), at(-77, 77), at(77, -77), at(-77, -77))[:len(l)]
}

func scribble(l []api.Time) {
	l = l[:cap(l)]
	for i := range l {
		l[i] = at(-99, -99)
	}
}

// makers are the functions that answer lists, of two.
func makers() []func(f, g []api.Time) []api.Time {
	return []func(f, g []api.Time) []api.Time{
		func(f, _ []api.Time) []api.Time { return front.New(f) },
		front.Meet,
		front.Join,
	}
}

func TestAnswersAreNew(t *testing.T) { // the rule of memory
	holdNew := func(f, g []api.Time) {
		for i, of := range makers() {
			one, two := roomy(f), roomy(g)
			wholeOne, wholeTwo := slices.Clone(one[:cap(one)]), slices.Clone(two[:cap(two)])
			left := func() bool {
				return slices.Equal(one[:cap(one)], wholeOne) && slices.Equal(two[:cap(two)], wholeTwo)
			}
			got := of(one, two)
			want := slices.Clone(got)
			if !left() {
				t.Fatalf("function %d: %v and %v were changed", i, f, g)
			}
			scribble(of(one, two))
			if !left() {
				t.Fatalf("function %d: what is answered of %v and %v is shared with them", i, f, g)
			}
			if !slices.Equal(got, want) {
				t.Fatalf("function %d: two answers of %v and %v are shared", i, f, g)
			}
			scribble(one)
			scribble(two)
			if !slices.Equal(got, want) || !slices.Equal(of(f, g), want) {
				t.Fatalf("function %d: %v and %v were kept", i, f, g)
			}
		}
	}
	eachTwo(holdNew)
}

func TestListsAreLeft(t *testing.T) { // the rule of memory, for what answers no list
	ask := func(f, g []api.Time) []any {
		return []any{front.Check(f), front.Ahead(f, at(1, 1)), front.LessEq(f, g), front.Rep(f, at(1, 1)), front.Same(f, g)}
	}
	eachTwo(func(f, g []api.Time) {
		one, two := roomy(f), roomy(g)
		wholeOne, wholeTwo := slices.Clone(one[:cap(one)]), slices.Clone(two[:cap(two)])
		first := ask(one, two)
		if !slices.Equal(one[:cap(one)], wholeOne) || !slices.Equal(two[:cap(two)], wholeTwo) {
			t.Fatalf("%v and %v were changed", f, g)
		}
		scribble(one)
		scribble(two)
		if again := ask(f, g); !slices.Equal(again, first) {
			t.Fatalf("%v and %v were kept: %v, then %v", f, g, first, again)
		}
	})
}

func TestListsThatShareRoom(t *testing.T) { // the rule of memory: one list stands in the other's spare room
	whole := list(4, 0, 2, 2, 3, 1, 0, 5, 6, 6)
	before := slices.Clone(whole)
	f, g := whole[:2], whole[2:]
	if got := front.Meet(f, g); !slices.Equal(got, list(0, 5, 2, 2, 3, 1, 4, 0)) {
		t.Errorf("Meet = %v", got)
	}
	if got := front.Join(f, g); !slices.Equal(got, leastOf(joinsOf(before[:2], before[2:]))) {
		t.Errorf("Join = %v", got)
	}
	front.LessEq(f, g)
	front.Same(f, g)
	front.New(f)
	if !slices.Equal(whole, before) {
		t.Errorf("%v was changed to %v", before, whole)
	}
}

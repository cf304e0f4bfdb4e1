package moment_test

import (
	"math"
	"slices"
	"testing"

	"runnel/api"
	"runnel/moment"
)

func at(epoch, round int) api.Time { return api.Time{Epoch: epoch, Round: round} }

// numbers are ordinary ones, the edges of times, and what Check does not take, the least first.
func numbers() []int {
	return []int{math.MinInt, math.MinInt + 1, -api.MaxTime, -2, -1, 0, 1, 2, 3, 1 << 32, api.MaxTime - 1, api.MaxTime, api.MaxTime + 1, math.MaxInt - 1, math.MaxInt}
}

// rising are all pairs of numbers, each ahead of those behind it by Order.
func rising() []api.Time {
	var l []api.Time
	for _, epoch := range numbers() {
		for _, round := range numbers() {
			l = append(l, at(epoch, round))
		}
	}
	return l
}

// subsets are all lists of some times of a square of side 3, each with its times in some order and the first of them again at its end.
func subsets() [][]api.Time {
	var all [][]api.Time
	for set := range 1 << 9 {
		var l []api.Time
		for i := range 9 {
			if k := (i*7 + set) % 9; set>>k&1 == 1 {
				l = append(l, at(k/3-1, k%3-1))
			}
		}
		if len(l) > 0 {
			l = append(l, l[0])
		}
		all = append(all, l)
	}
	return all
}

// roomy is the list with spare room behind it.
func roomy(l []api.Time) []api.Time {
	return append(slices.Clone(l), at(-77, 77), at(77, -77))[:len(l)]
}

func scribble(l []api.Time) {
	l = l[:cap(l)]
	for i := range l {
		l[i] = at(-99, -99)
	}
}

func TestCheck(t *testing.T) { // P4.1
	for _, c := range []struct {
		n    int
		want api.Errno
	}{
		{math.MinInt, api.ErrTime}, {-api.MaxTime, api.ErrTime}, {-1, api.ErrTime},
		{0, api.OK}, {1, api.OK}, {1 << 31, api.OK}, {1 << 32, api.OK}, {api.MaxTime - 1, api.OK}, {api.MaxTime, api.OK},
		{api.MaxTime + 1, api.ErrTime}, {1 << 41, api.ErrTime}, {math.MaxInt, api.ErrTime},
	} {
		for _, good := range []int{0, 5, api.MaxTime} {
			if e := moment.Check(at(c.n, good)); e != c.want {
				t.Errorf("Check(%d, %d) = %d, want %d", c.n, good, e, c.want)
			}
			if e := moment.Check(at(good, c.n)); e != c.want {
				t.Errorf("Check(%d, %d) = %d, want %d", good, c.n, e, c.want)
			}
		}
		for _, bad := range []int{math.MinInt, -1, api.MaxTime + 1, math.MaxInt} {
			if e, f := moment.Check(at(c.n, bad)), moment.Check(at(bad, c.n)); e != api.ErrTime || f != api.ErrTime {
				t.Errorf("Check(%d, %d) = %d, turned round %d, want ErrTime", c.n, bad, e, f)
			}
		}
	}
}

func TestLessEq(t *testing.T) { // P4.1
	for _, c := range []struct {
		a, b      api.Time
		ab, after bool
	}{
		{at(0, 0), at(0, 0), true, true},
		{at(1, 2), at(1, 3), true, false},
		{at(1, 2), at(2, 2), true, false},
		{at(1, 2), at(2, 3), true, false},
		{at(1, 2), at(2, 1), false, false},
		{at(0, api.MaxTime), at(api.MaxTime, 0), false, false},
		{at(0, 0), at(api.MaxTime, api.MaxTime), true, false},
		{at(math.MinInt, math.MinInt), at(math.MaxInt, math.MaxInt), true, false},
		{at(math.MinInt, math.MaxInt), at(math.MaxInt, math.MinInt), false, false},
		{at(-1, -1), at(0, 0), true, false},
		{at(-1, 0), at(0, -1), false, false},
	} {
		if ab, ba := moment.LessEq(c.a, c.b), moment.LessEq(c.b, c.a); ab != c.ab || ba != c.after {
			t.Errorf("LessEq of %v and %v: %v, turned round %v", c.a, c.b, ab, ba)
		}
	}
}

func TestJoinMeet(t *testing.T) { // P4.1
	for _, c := range []struct{ a, b, join, meet api.Time }{
		{at(1, 2), at(2, 1), at(2, 2), at(1, 1)},
		{at(1, 2), at(1, 2), at(1, 2), at(1, 2)},
		{at(1, 2), at(3, 4), at(3, 4), at(1, 2)},
		{at(0, api.MaxTime), at(api.MaxTime, 0), at(api.MaxTime, api.MaxTime), at(0, 0)},
		{at(-5, 3), at(-6, 4), at(-5, 4), at(-6, 3)},
		{at(math.MinInt, math.MaxInt), at(math.MaxInt, math.MinInt), at(math.MaxInt, math.MaxInt), at(math.MinInt, math.MinInt)},
		{at(api.MaxTime+1, 0), at(0, -1), at(api.MaxTime+1, 0), at(0, -1)},
	} {
		for range 2 {
			if j := moment.Join(c.a, c.b); j != c.join {
				t.Errorf("Join(%v, %v) = %v, want %v", c.a, c.b, j, c.join)
			}
			if m := moment.Meet(c.a, c.b); m != c.meet {
				t.Errorf("Meet(%v, %v) = %v, want %v", c.a, c.b, m, c.meet)
			}
			c.a, c.b = c.b, c.a
		}
	}
}

func TestOrder(t *testing.T) { // P4.1: also of times that Check does not take
	l := rising()
	for i, a := range l {
		for k, b := range l {
			want := 0
			if i < k {
				want = -1
			} else if i > k {
				want = 1
			}
			if o := moment.Order(a, b); o != want {
				t.Fatalf("Order(%v, %v) = %d, want %d", a, b, o, want)
			}
		}
	}
}

func TestLessEqIsAPartialOrder(t *testing.T) { // P4.3
	l := rising()
	for _, a := range l {
		if !moment.LessEq(a, a) {
			t.Fatalf("%v is not LessEq to itself", a)
		}
		for _, b := range l {
			if !moment.LessEq(a, b) || a == b {
				continue
			}
			if moment.LessEq(b, a) {
				t.Fatalf("%v and %v are LessEq to each other", a, b)
			}
			if moment.Order(a, b) != -1 {
				t.Fatalf("%v is LessEq to %v, and not ahead", a, b)
			}
			for _, c := range l {
				if moment.LessEq(b, c) && !moment.LessEq(a, c) {
					t.Fatalf("%v, %v, %v: LessEq leads on no further", a, b, c)
				}
			}
		}
	}
}

func TestJoinIsLeastMeetIsGreatest(t *testing.T) { // P4.3
	l := rising()
	for _, a := range l {
		for _, b := range l {
			join, meet := moment.Join(a, b), moment.Meet(a, b)
			if !moment.LessEq(a, join) || !moment.LessEq(b, join) || !moment.LessEq(meet, a) || !moment.LessEq(meet, b) {
				t.Fatalf("%v and %v: Join %v, Meet %v", a, b, join, meet)
			}
			for _, c := range l {
				if moment.LessEq(a, c) && moment.LessEq(b, c) && !moment.LessEq(join, c) {
					t.Fatalf("%v and %v: Join %v, and %v", a, b, join, c)
				}
				if moment.LessEq(c, a) && moment.LessEq(c, b) && !moment.LessEq(c, meet) {
					t.Fatalf("%v and %v: Meet %v, and %v", a, b, meet, c)
				}
			}
		}
	}
}

func TestJoinAndMeetOfChecked(t *testing.T) { // P4.1: what Check takes goes on to be taken
	for _, a := range rising() {
		for _, b := range rising() {
			good := moment.Check(a) == api.OK && moment.Check(b) == api.OK
			if good && (moment.Check(moment.Join(a, b)) != api.OK || moment.Check(moment.Meet(a, b)) != api.OK) {
				t.Fatalf("%v and %v: Join %v, Meet %v", a, b, moment.Join(a, b), moment.Meet(a, b))
			}
		}
	}
}

func TestUniqueAndClosure(t *testing.T) { // P4.2
	for _, c := range []struct{ l, unique, closure []api.Time }{
		{nil, nil, nil},
		{[]api.Time{}, nil, nil},
		{[]api.Time{at(3, 4)}, []api.Time{at(3, 4)}, []api.Time{at(3, 4)}},
		{[]api.Time{at(3, 4), at(3, 4), at(3, 4)}, []api.Time{at(3, 4)}, []api.Time{at(3, 4)}},
		{
			[]api.Time{at(1, 0), at(0, 2)},
			[]api.Time{at(0, 2), at(1, 0)},
			[]api.Time{at(0, 2), at(1, 0), at(1, 2)},
		},
		{
			[]api.Time{at(1, 0), at(0, 2), at(1, 0), at(0, 2)},
			[]api.Time{at(0, 2), at(1, 0)},
			[]api.Time{at(0, 2), at(1, 0), at(1, 2)},
		},
		{ // one is LessEq to the other: nothing new
			[]api.Time{at(5, 5), at(2, 3)},
			[]api.Time{at(2, 3), at(5, 5)},
			[]api.Time{at(2, 3), at(5, 5)},
		},
		{ // three of which none is ahead
			[]api.Time{at(2, 0), at(0, 2), at(1, 1)},
			[]api.Time{at(0, 2), at(1, 1), at(2, 0)},
			[]api.Time{at(0, 2), at(1, 1), at(1, 2), at(2, 0), at(2, 1), at(2, 2)},
		},
		{ // several with one epoch, and one with one of their rounds
			[]api.Time{at(1, 7), at(1, 3), at(1, 5), at(0, 6), at(0, 5), at(2, 5)},
			[]api.Time{at(0, 5), at(0, 6), at(1, 3), at(1, 5), at(1, 7), at(2, 5)},
			[]api.Time{at(0, 5), at(0, 6), at(1, 3), at(1, 5), at(1, 6), at(1, 7), at(2, 5), at(2, 6), at(2, 7)},
		},
		{ // a join that is in l
			[]api.Time{at(1, 0), at(0, 1), at(1, 1)},
			[]api.Time{at(0, 1), at(1, 0), at(1, 1)},
			[]api.Time{at(0, 1), at(1, 0), at(1, 1)},
		},
		{
			[]api.Time{at(api.MaxTime, 0), at(0, api.MaxTime)},
			[]api.Time{at(0, api.MaxTime), at(api.MaxTime, 0)},
			[]api.Time{at(0, api.MaxTime), at(api.MaxTime, 0), at(api.MaxTime, api.MaxTime)},
		},
		{ // what Check does not take
			[]api.Time{at(math.MaxInt, math.MinInt), at(-1, api.MaxTime+1), at(math.MinInt, math.MaxInt)},
			[]api.Time{at(math.MinInt, math.MaxInt), at(-1, api.MaxTime+1), at(math.MaxInt, math.MinInt)},
			[]api.Time{
				at(math.MinInt, math.MaxInt), at(-1, api.MaxTime+1), at(-1, math.MaxInt),
				at(math.MaxInt, math.MinInt), at(math.MaxInt, api.MaxTime+1), at(math.MaxInt, math.MaxInt),
			},
		},
	} {
		if got := moment.Unique(c.l); !slices.Equal(got, c.unique) {
			t.Errorf("Unique(%v) = %v, want %v", c.l, got, c.unique)
		}
		if got := moment.Closure(c.l); !slices.Equal(got, c.closure) {
			t.Errorf("Closure(%v) = %v, want %v", c.l, got, c.closure)
		}
	}
}

// holdLists asks what the chapter says of Unique and Closure, pair by pair.
func holdLists(t *testing.T, l []api.Time) {
	t.Helper()
	sorted := slices.SortedFunc(slices.Values(l), moment.Order)
	if got := moment.Unique(l); !slices.Equal(got, slices.Compact(sorted)) {
		t.Fatalf("Unique(%v) = %v", l, got)
	}
	var joins []api.Time
	for _, a := range l {
		for _, b := range l {
			joins = append(joins, moment.Join(a, b))
		}
	}
	slices.SortFunc(joins, moment.Order)
	closure := moment.Closure(l)
	if !slices.Equal(closure, slices.Compact(joins)) {
		t.Fatalf("Closure(%v) = %v", l, closure)
	}
	if again := moment.Closure(closure); !slices.Equal(again, closure) {
		t.Fatalf("Closure(%v) = %v", closure, again)
	}
}

func TestListsOfSubsets(t *testing.T) { // P4.2, P4.4
	for _, l := range subsets() {
		holdLists(t, l)
	}
	holdLists(t, rising())
}

func FuzzLists(f *testing.F) { // P4.2, P4.4
	f.Add([]byte{1, 0, 0, 2, 1, 0})
	f.Add([]byte{5, 200, 5, 3, 4, 200, 6, 0, 255, 255})
	f.Fuzz(func(t *testing.T, b []byte) {
		b = b[:min(len(b), 64)]
		var l []api.Time
		for i := 1; i < len(b); i += 2 {
			l = append(l, at(int(int8(b[i-1])), int(int8(b[i]))))
		}
		holdLists(t, l)
	})
}

// joinUpTo is the join of l's times that are LessEq to a time, and whether there are any.
func joinUpTo(l []api.Time, to api.Time) (join api.Time, some bool) {
	for _, t := range l {
		if !moment.LessEq(t, to) {
			continue
		}
		if !some {
			join, some = t, true
		}
		join = moment.Join(join, t)
	}
	return join, some
}

func TestClosureHasTheJoinUpToATime(t *testing.T) { // P4.4
	for _, l := range subsets() {
		closure := moment.Closure(l)
		for epoch := -2; epoch < 3; epoch++ {
			for round := -2; round < 3; round++ {
				join, some := joinUpTo(l, at(epoch, round))
				if some && !slices.Contains(closure, join) {
					t.Fatalf("Closure(%v) = %v has not %v, the join up to (%d, %d)", l, closure, join, epoch, round)
				}
			}
		}
	}
}

func TestClosureHasTheJoinsOfAnyTimes(t *testing.T) { // P4.4
	l := []api.Time{at(0, 5), at(1, 3), at(2, 4), at(3, 0), at(1, 1), at(4, 2), at(0, 5)}
	closure := moment.Closure(l)
	for set := 1; set < 1<<len(l); set++ {
		join := at(math.MinInt, math.MinInt)
		for i, a := range l {
			if set>>i&1 == 1 {
				join = moment.Join(join, a)
			}
		}
		if !slices.Contains(closure, join) {
			t.Errorf("Closure(%v) = %v has not %v", l, closure, join)
		}
	}
}

const many = 1 << 14

func TestManyTimesOneBehindAnother(t *testing.T) { // P4.2: as many joins as times
	var l, want []api.Time
	for i := range many {
		want = append(want, at(i/2, i-i/2))
		k := (i * 48271) % many
		l = append(l, at(k/2, k-k/2), at(k/2, k-k/2))
	}
	if got := moment.Unique(l); !slices.Equal(got, want) {
		t.Errorf("Unique: %d times, want %d", len(got), len(want))
	}
	if got := moment.Closure(l); !slices.Equal(got, want) {
		t.Errorf("Closure: %d times, want %d", len(got), len(want))
	}
}

func TestManyTimesOfTwoEpochs(t *testing.T) { // P4.2: the late ones all have joins with the early ones, the same for all
	var l, want []api.Time
	for i := range many {
		l = append(l, at(1, many-i), at(0, 2*many-i))
	}
	for i := range many {
		want = append(want, at(0, many+i+1))
	}
	for i := range 2 * many {
		want = append(want, at(1, i+1))
	}
	if got := moment.Closure(l); !slices.Equal(got, want) {
		t.Errorf("Closure: %d times, want %d", len(got), len(want))
	}
}

func TestManyTimesOfWhichNoneIsAhead(t *testing.T) { // P4.2: each two have a join
	const side = 1000
	var l, want []api.Time
	for i := range side {
		l = append(l, at(i, side-1-i))
		for round := side - 1 - i; round < side; round++ {
			want = append(want, at(i, round))
		}
	}
	if got := moment.Closure(l); !slices.Equal(got, want) {
		t.Errorf("Closure: %d times, want %d", len(got), len(want))
	}
}

func TestListsAreLeftAndAnswersAreNew(t *testing.T) { // the rule of memory
	for _, f := range []func([]api.Time) []api.Time{moment.Unique, moment.Closure} {
		for _, l := range append(subsets(), []api.Time{at(0, 0), at(1, 1)}, []api.Time{at(2, 2)}) {
			handed := roomy(l)
			whole := slices.Clone(handed[:cap(handed)])
			got := f(handed)
			if !slices.Equal(handed[:cap(handed)], whole) {
				t.Fatalf("%v was changed", l)
			}
			want := slices.Clone(got)
			other := f(handed)
			scribble(other)
			if !slices.Equal(handed[:cap(handed)], whole) {
				t.Fatalf("what is answered of %v is shared with it", l)
			}
			if !slices.Equal(got, want) {
				t.Fatalf("two answers of %v are shared", l)
			}
			scribble(handed)
			if !slices.Equal(got, want) || !slices.Equal(f(l), want) {
				t.Fatalf("%v was kept", l)
			}
		}
	}
}

package zset_test

import (
	"cmp"
	"math"
	"math/big"
	"reflect"
	"slices"
	"testing"

	"runnel/api"
	"runnel/front"
	"runnel/moment"
	"runnel/row"
	"runnel/zset"
)

const (
	low  = math.MinInt
	high = math.MaxInt
)

func n(x int) api.Val    { return api.Val{Kind: api.KindInt, Int: x} }
func s(x string) api.Val { return api.Val{Kind: api.KindStr, Str: x} }

func at(epoch, round int) api.Time { return api.Time{Epoch: epoch, Round: round} }

// The rows of most tests, in order.
func a() api.Row { return api.Row{n(1)} }
func b() api.Row { return api.Row{n(1), s("x")} }
func c() api.Row { return api.Row{s("")} }

func up(r api.Row, epoch, round, diff int) api.Up {
	return api.Up{Row: r, Time: at(epoch, round), Diff: diff}
}

func count(r api.Row, diff int) api.Count { return api.Count{Row: r, Diff: diff} }

type ups = []api.Up
type counts = []api.Count
type times = []api.Time

// laden is the row with the fields that play no part filled by some number.
func laden(r api.Row, by int) api.Row {
	r = slices.Clone(r)
	for i := range r {
		if r[i].Kind != api.KindInt {
			r[i].Int = by
		}
		if r[i].Kind != api.KindStr {
			r[i].Str = string(rune('a' + by&7))
		}
	}
	return r
}

// risingRows are rows in order, also such as row.Check does not take.
func risingRows() []api.Row {
	other := func(kind int) api.Val { return api.Val{Kind: kind, Int: 5, Str: "z"} }
	return []api.Row{
		nil,
		{other(-1)},
		{n(low)},
		{n(-1)},
		{n(0)},
		{n(0), n(0)},
		{n(0), s("")},
		a(),
		{n(1), n(high)},
		{n(1), s("w")},
		b(),
		{n(1), s("x"), n(0)},
		{n(2)},
		{n(high)},
		c(),
		{s("\x00")},
		{s("a")},
		{s("a"), n(1)},
		{s("aa")},
		{s("\xff")},
		{other(2)},
		{other(2), n(0)},
		{other(7)},
	}
}

// risingTimes are times in order, also such as moment.Check does not take.
func risingTimes() times {
	numbers := []int{low, -1, 0, 1, 2, api.MaxTime, api.MaxTime + 1, high}
	var l times
	for _, epoch := range numbers {
		for _, round := range numbers {
			l = append(l, at(epoch, round))
		}
	}
	return l
}

// square is the times that most lists are asked at.
func square() times {
	var l times
	for epoch := range 4 {
		for round := range 4 {
			l = append(l, at(epoch, round))
		}
	}
	return append(l, at(-1, 9), at(9, -1), at(low, low), at(high, high), at(0, high), at(api.MaxTime, 0))
}

// equalUps asks what zset.Same asks, without it.
func equalUps(x, y ups) bool {
	return slices.EqualFunc(x, y, func(u, v api.Up) bool {
		return row.Same(u.Row, v.Row) && u.Time == v.Time && u.Diff == v.Diff
	})
}

func equalCounts(x, y counts) bool {
	return slices.EqualFunc(x, y, func(u, v api.Count) bool { return row.Same(u.Row, v.Row) && u.Diff == v.Diff })
}

// tally is what is known of a row and a time on the way through a list: the sum up to now, and whether it was too great ever.
type tally struct {
	up   api.Up
	sum  *big.Int
	over bool
}

func (y *tally) add(diff *big.Int) {
	y.sum.Add(y.sum, diff)
	y.over = y.over || !y.sum.IsInt64()
}

// tallies are what must be answered, with no sort and in numbers of any length.
type tallies []*tally

func (l *tallies) of(r api.Row, t api.Time) *tally {
	for _, y := range *l {
		if row.Same(y.up.Row, r) && y.up.Time == t {
			return y
		}
	}
	*l = append(*l, &tally{up: api.Up{Row: r, Time: t}, sum: new(big.Int)})
	return (*l)[len(*l)-1]
}

func (l tallies) asked() (ups, api.Errno) {
	var told ups
	for _, y := range l {
		if y.over {
			return nil, api.ErrOver
		}
		if y.sum.Sign() == 0 {
			continue
		}
		y.up.Diff = int(y.sum.Int64())
		place := 0
		for place < len(told) && before(told[place], y.up) {
			place++
		}
		told = slices.Insert(told, place, y.up)
	}
	return told, api.OK
}

func before(u, v api.Up) bool {
	return cmp.Or(row.Order(u.Row, v.Row), cmp.Compare(u.Time.Epoch, v.Time.Epoch), cmp.Compare(u.Time.Round, v.Time.Round)) < 0
}

func exactly(diff int) *big.Int { return big.NewInt(int64(diff)) }

// consolidated is Consolidate as the chapter says it.
func consolidated(l ups) (ups, api.Errno) {
	var all tallies
	for _, u := range l {
		all.of(u.Row, u.Time).add(exactly(u.Diff))
	}
	return all.asked()
}

// thereAt is At as the chapter says it.
func thereAt(l ups, t api.Time) (counts, api.Errno) {
	var all tallies
	for _, u := range l {
		if u.Time.Epoch <= t.Epoch && u.Time.Round <= t.Round {
			all.of(u.Row, api.Time{}).add(exactly(u.Diff))
		}
	}
	return countsOf(all)
}

// lessOf is Less as the chapter says it.
func lessOf(x, y counts) (counts, api.Errno) {
	var all tallies
	for _, c := range x {
		all.of(c.Row, api.Time{}).add(exactly(c.Diff))
	}
	for _, c := range y {
		all.of(c.Row, api.Time{}).add(new(big.Int).Neg(exactly(c.Diff)))
	}
	return countsOf(all)
}

func countsOf(all tallies) (counts, api.Errno) {
	l, e := all.asked()
	var told counts
	for _, u := range l {
		told = append(told, count(u.Row, u.Diff))
	}
	return told, e
}

func holdUps(t *testing.T, name string, got ups, e api.Errno, want ups, wantErr api.Errno) {
	t.Helper()
	if e != wantErr || !equalUps(got, want) {
		t.Fatalf("%s: %v, %d, want %v, %d", name, got, int(e), want, int(wantErr))
	}
}

func holdCounts(t *testing.T, name string, got counts, e api.Errno, want counts, wantErr api.Errno) {
	t.Helper()
	if e != wantErr || !equalCounts(got, want) {
		t.Fatalf("%s: %v, %d, want %v, %d", name, got, int(e), want, int(wantErr))
	}
}

func TestOrder(t *testing.T) { // P7.1
	var rising ups
	for _, r := range risingRows() {
		for _, u := range risingTimes() {
			rising = append(rising, api.Up{Row: r, Time: u})
		}
	}
	for i, u := range rising {
		for k, v := range rising {
			u.Diff, v.Diff = k%3, i%5 // plays no part
			if order := zset.Order(u, v); order != cmp.Compare(i, k) {
				t.Fatalf("Order(%v, %v) = %d", u, v, order)
			}
		}
		v := api.Up{Row: laden(u.Row, i), Time: u.Time, Diff: high}
		if order := zset.Order(u, v); order != 0 {
			t.Fatalf("Order(%v, %v) = %d", u, v, order)
		}
	}
}

func TestConsolidate(t *testing.T) { // P7.1: told by hand
	for _, k := range []struct {
		name    string
		l, want ups
	}{
		{"no change", nil, nil},
		{"no change, empty", ups{}, nil},
		{"one change", ups{up(a(), 3, 4, 5)}, ups{up(a(), 3, 4, 5)}},
		{"one change, lowest", ups{up(a(), 0, 0, low)}, ups{up(a(), 0, 0, low)}},
		{"one change, highest", ups{up(a(), 0, 0, high)}, ups{up(a(), 0, 0, high)}},
		{"one change of 0", ups{up(a(), 0, 0, 0)}, nil},
		{"only 0", ups{up(a(), 0, 0, 0), up(b(), 0, 0, 0), up(a(), 0, 0, 0)}, nil},
		{"no values", ups{up(nil, 0, 0, 2), up(api.Row{}, 0, 0, 3)}, ups{up(nil, 0, 0, 5)}},
		{"to 0", ups{up(a(), 0, 0, 2), up(a(), 0, 0, -2)}, nil},
		{"to 0 and on", ups{up(a(), 0, 0, 2), up(a(), 0, 0, -2), up(a(), 0, 0, 7)}, ups{up(a(), 0, 0, 7)}},
		{"the same row at several times",
			ups{up(a(), 1, 0, 1), up(a(), 0, 2, 2), up(a(), 1, 0, 3), up(a(), 0, 1, 4), up(a(), 0, 2, -1)},
			ups{up(a(), 0, 1, 4), up(a(), 0, 2, 1), up(a(), 1, 0, 4)}},
		{"several rows at the same time",
			ups{up(c(), 0, 0, 1), up(b(), 0, 0, 2), up(a(), 0, 0, 3), up(b(), 0, 0, -3), up(c(), 0, 0, -1)},
			ups{up(a(), 0, 0, 3), up(b(), 0, 0, -1)}},
		{"rows go ahead of times",
			ups{up(b(), 0, 0, 1), up(a(), 9, 9, 1), up(c(), 0, 0, 1), up(b(), 5, 0, 1)},
			ups{up(a(), 9, 9, 1), up(b(), 0, 0, 1), up(b(), 5, 0, 1), up(c(), 0, 0, 1)}},
		{"times that are neither ahead",
			ups{up(a(), 1, 0, -1), up(a(), 0, 1, 1)},
			ups{up(a(), 0, 1, 1), up(a(), 1, 0, -1)}},
		{"times that may not be",
			ups{up(a(), high, low, 1), up(a(), -1, 0, 1), up(a(), high, low, 1), up(a(), api.MaxTime+1, 0, 1)},
			ups{up(a(), -1, 0, 1), up(a(), api.MaxTime+1, 0, 1), up(a(), high, low, 2)}},
		{"just not too great",
			ups{up(a(), 0, 0, high-1), up(b(), 0, 0, low+1), up(a(), 0, 0, 1), up(b(), 0, 0, -1)},
			ups{up(a(), 0, 0, high), up(b(), 0, 0, low)}},
		{"from the lowest to the highest",
			ups{up(a(), 0, 0, low), up(a(), 0, 0, high), up(a(), 0, 0, high), up(a(), 0, 0, 1)},
			ups{up(a(), 0, 0, high)}},
		{"lowest and highest", ups{up(a(), 0, 0, low), up(a(), 0, 0, high)}, ups{up(a(), 0, 0, -1)}},
		{"great ones of two rows", ups{up(a(), 0, 0, high), up(b(), 0, 0, high)}, ups{up(a(), 0, 0, high), up(b(), 0, 0, high)}},
		{"great ones at two times", ups{up(a(), 0, 0, low), up(a(), 0, 1, low)}, ups{up(a(), 0, 0, low), up(a(), 0, 1, low)}},
	} {
		got, e := zset.Consolidate(k.l)
		holdUps(t, k.name, got, e, k.want, api.OK)
	}
}

func TestRowsThatDifferWhereItPlaysNoPart(t *testing.T) { // P7.1 to P7.3, the rule of rows
	for _, r := range risingRows() {
		one, two := laden(r, 1), laden(r, 2)
		got, e := zset.Consolidate(ups{up(one, 0, 0, 2), up(two, 0, 0, 3)})
		holdUps(t, "Consolidate", got, e, ups{up(r, 0, 0, 5)}, api.OK)
		got, e = zset.Consolidate(ups{up(two, 0, 0, 3), up(one, 0, 0, -3)})
		holdUps(t, "Consolidate", got, e, nil, api.OK)
		there, e := zset.At(ups{up(one, 0, 0, 2), up(two, 0, 1, 3)}, at(0, 1))
		holdCounts(t, "At", there, e, counts{count(r, 5)}, api.OK)
		there, e = zset.Less(counts{count(one, 2), count(two, 2)}, counts{count(two, 1), count(one, 1)})
		holdCounts(t, "Less", there, e, counts{count(r, 2)}, api.OK)
		if !zset.Same(ups{up(one, 1, 2, 3)}, ups{up(two, 1, 2, 3)}) {
			t.Errorf("Same tells %v and %v apart", one, two)
		}
	}
}

// order is Diffs in some order, and whether all sums on the way fit.
type order struct {
	diffs []int
	e     api.Errno
}

// orders hold the same numbers more than once, in an order that fits and in one that does not.
func orders() []order {
	return []order{
		{[]int{high, -1, 1}, api.OK},
		{[]int{-1, high, 1}, api.OK},
		{[]int{high, 1, -1}, api.ErrOver},
		{[]int{1, high, -1}, api.ErrOver},
		{[]int{low, 1, -1}, api.OK},
		{[]int{low, -1, 1}, api.ErrOver},
		{[]int{-1, low, 1}, api.ErrOver},
		{[]int{low, high, high, low, 5}, api.OK},
		{[]int{high, high, low, low, 5}, api.ErrOver},
		{[]int{low, low, high, high, 5}, api.ErrOver}, // the sum wraps round to 0 on the way
		{[]int{high, high}, api.ErrOver},
		{[]int{low, low}, api.ErrOver},
		{[]int{low, -1}, api.ErrOver},
		{[]int{high, 1}, api.ErrOver},
		{[]int{high, 0}, api.OK},
		{[]int{1, low}, api.OK},
	}
}

// sum is of Diffs that fit.
func (o order) sum() int {
	sum := 0
	for _, d := range o.diffs {
		sum += d
	}
	return sum
}

func TestSumsGoAsTheyStand(t *testing.T) { // P7.1, P7.2: changes of other rows stand between
	for _, o := range orders() {
		var l, want ups
		var x counts
		var there counts
		for i, d := range o.diffs {
			l = append(l, up(c(), i, 0, 1), up(b(), 1, 1, d), up(a(), 0, i, 1))
			x = append(x, count(c(), 1), count(b(), d), count(a(), 1))
		}
		if o.e == api.OK {
			for i := range o.diffs {
				want = append(want, up(a(), 0, i, 1))
			}
			want = append(want, up(b(), 1, 1, o.sum()))
			for i := range o.diffs {
				want = append(want, up(c(), i, 0, 1))
			}
			there = counts{count(a(), len(o.diffs)), count(b(), o.sum()), count(c(), len(o.diffs))}
		}
		got, e := zset.Consolidate(l)
		holdUps(t, "Consolidate", got, e, want, o.e)
		told, e := zset.At(l, at(9, 9))
		holdCounts(t, "At", told, e, there, o.e)
		told, e = zset.Less(x, nil)
		holdCounts(t, "Less", told, e, there, o.e)
	}
}

func TestAtAddsTimesAsTheyStand(t *testing.T) { // P7.2: not time by time
	for _, k := range []struct {
		l    ups
		want counts
		e    api.Errno
	}{
		{ups{up(a(), 0, 0, high), up(a(), 1, 0, 1), up(a(), 0, 0, -1)}, nil, api.ErrOver},
		{ups{up(a(), 1, 0, -1), up(a(), 0, 0, high), up(a(), 0, 0, 1)}, counts{count(a(), high)}, api.OK},
		{ups{up(a(), 0, 0, high), up(a(), 0, 0, -1), up(a(), 1, 0, 1)}, counts{count(a(), high)}, api.OK},
		{ups{up(a(), 0, 0, high), up(a(), 0, 1, high), up(a(), 1, 0, -high), up(a(), 0, 0, -high)}, nil, api.ErrOver},
		{ups{up(a(), 0, 0, high), up(a(), 1, 0, -high), up(a(), 0, 1, high), up(a(), 0, 0, -high)}, nil, api.OK},
	} {
		got, e := zset.At(k.l, at(1, 1))
		holdCounts(t, "At", got, e, k.want, k.e)
	}
}

// alternating is many changes of few rows, of each high and -high in turn: any two that change places make a sum that is too great.
func alternating(many int) ups {
	var l ups
	for i := range many {
		r := laden(risingRows()[i*5%7], i)
		diff := high
		if i/7%2 == 1 {
			diff = -high
		}
		l = append(l, up(r, 1, 1, diff))
	}
	return l
}

func TestManyAreSortedStably(t *testing.T) { // P7.1, P7.2
	for _, many := range []int{14, 140, 14 * 100, 14 * 1000} {
		l := alternating(many)
		got, e := zset.Consolidate(l)
		holdUps(t, "Consolidate", got, e, nil, api.OK)
		there, e := zset.At(l, at(1, 1))
		holdCounts(t, "At", there, e, nil, api.OK)
		there, e = zset.Less(ofCounts(l), nil)
		holdCounts(t, "Less", there, e, nil, api.OK)
		there, e = zset.Less(nil, ofCounts(l))
		holdCounts(t, "Less", there, e, nil, api.OK)

		last, short := l[len(l)-1], l[:len(l)-1]
		got, e = zset.Consolidate(short)
		holdUps(t, "Consolidate", got, e, ups{up(last.Row, 1, 1, high)}, api.OK)
		there, e = zset.At(short, at(1, 1))
		holdCounts(t, "At", there, e, counts{count(last.Row, high)}, api.OK)
		there, e = zset.Less(nil, ofCounts(short))
		holdCounts(t, "Less", there, e, counts{count(last.Row, -high)}, api.OK)
	}
}

// ofCounts is the changes without their times.
func ofCounts(l ups) counts {
	var told counts
	for _, u := range l {
		told = append(told, count(u.Row, u.Diff))
	}
	return told
}

func TestTooGreat(t *testing.T) { // P7.1, P7.2: wrong inputs, and nothing else is answered
	for name, l := range map[string]ups{
		"the first row":       {up(a(), 0, 0, high), up(a(), 0, 0, 1), up(b(), 0, 0, 1), up(c(), 0, 0, 1)},
		"the last row":        {up(a(), 0, 0, 1), up(b(), 0, 0, 1), up(c(), 0, 0, low), up(c(), 0, 0, -1)},
		"a row between":       {up(c(), 0, 0, 1), up(b(), 0, 0, 1), up(b(), 0, 0, high), up(a(), 0, 0, 1)},
		"two rows":            {up(b(), 0, 0, low), up(a(), 0, 0, high), up(a(), 0, 0, 1), up(b(), 0, 0, -1)},
		"two times of a row":  {up(a(), 0, 1, low), up(a(), 0, 0, low), up(a(), 0, 0, low), up(a(), 0, 1, low)},
		"would fit in all":    {up(a(), 0, 0, high), up(a(), 0, 0, high), up(a(), 0, 0, low), up(a(), 0, 0, low)},
		"what wraps round":    {up(a(), 0, 0, low), up(a(), 0, 0, low)},
		"the last time":       {up(a(), 0, 0, 1), up(a(), 0, 1, high), up(a(), 0, 1, 1)},
		"rows that are laden": {up(laden(b(), 1), 0, 0, high), up(laden(b(), 2), 0, 0, 1)},
	} {
		if got, e := zset.Consolidate(l); e != api.ErrOver || len(got) != 0 {
			t.Errorf("Consolidate, %s: %v, %d", name, got, int(e))
		}
		if got, e := zset.At(l, at(0, 1)); e != api.ErrOver || len(got) != 0 {
			t.Errorf("At, %s: %v, %d", name, got, int(e))
		}
		if got, e := zset.Less(ofCounts(l), counts{count(c(), 1)}); e != api.ErrOver || len(got) != 0 {
			t.Errorf("Less, %s: %v, %d", name, got, int(e))
		}
	}
}

func TestAt(t *testing.T) { // P7.2: told by hand
	page := ups{up(a(), 0, 0, 1), up(a(), 1, 0, -1)}
	mixed := ups{up(c(), 2, 0, 5), up(a(), 0, 2, 3), up(b(), 1, 1, -4), up(a(), 2, 0, 10), up(b(), 0, 0, 4), up(a(), 0, 0, 0)}
	great := ups{up(a(), 0, 0, high), up(a(), 0, 1, 1), up(a(), 1, 0, 1), up(a(), 0, 0, -1)}
	for _, k := range []struct {
		name string
		l    ups
		t    api.Time
		want counts
		e    api.Errno
	}{
		{"no change", nil, at(0, 0), nil, api.OK},
		{"no change, empty", ups{}, at(high, high), nil, api.OK},
		{"the page's", page, at(0, 5), counts{count(a(), 1)}, api.OK},
		{"the page's", page, at(1, 0), nil, api.OK},
		{"the page's", page, at(0, 0), counts{count(a(), 1)}, api.OK},
		{"the page's", page, at(-1, 5), nil, api.OK},
		{"nothing is there yet", mixed, at(-1, -1), nil, api.OK},
		{"mixed", mixed, at(0, 0), counts{count(b(), 4)}, api.OK},
		{"mixed", mixed, at(0, 1), counts{count(b(), 4)}, api.OK},
		{"mixed", mixed, at(0, 2), counts{count(a(), 3), count(b(), 4)}, api.OK},
		{"mixed", mixed, at(1, 2), counts{count(a(), 3)}, api.OK},
		{"mixed", mixed, at(2, 0), counts{count(a(), 10), count(b(), 4), count(c(), 5)}, api.OK},
		{"mixed", mixed, at(2, 1), counts{count(a(), 10), count(c(), 5)}, api.OK},
		{"mixed", mixed, at(2, 2), counts{count(a(), 13), count(c(), 5)}, api.OK},
		{"mixed", mixed, at(high, high), counts{count(a(), 13), count(c(), 5)}, api.OK},
		{"fewer than 0", mixed[2:3], at(1, 1), counts{count(b(), -4)}, api.OK},
		{"too great is only what is not there yet", great, at(0, 0), counts{count(a(), high-1)}, api.OK},
		{"too great on the way", great, at(0, 1), nil, api.ErrOver},
		{"too great on the way", great, at(1, 0), nil, api.ErrOver},
		{"lowest", ups{up(a(), 0, 0, low), up(a(), 0, 1, 0)}, at(0, 1), counts{count(a(), low)}, api.OK},
		{"highest", ups{up(a(), 0, 1, 1), up(a(), 0, 0, high-1)}, at(0, 1), counts{count(a(), high)}, api.OK},
		{"only 0", ups{up(a(), 0, 0, 0)}, at(0, 0), nil, api.OK},
		{"times that may not be", ups{up(a(), low, low, 2), up(a(), high, low, 3), up(b(), -1, -1, 1)}, at(-1, -1), counts{count(a(), 2), count(b(), 1)}, api.OK},
	} {
		got, e := zset.At(k.l, k.t)
		holdCounts(t, k.name, got, e, k.want, k.e)
	}
}

func TestLess(t *testing.T) { // P7.2: told by hand
	for _, k := range []struct {
		name string
		x, y counts
		want counts
		e    api.Errno
	}{
		{"nothing", nil, nil, nil, api.OK},
		{"nothing, empty", counts{}, counts{}, nil, api.OK},
		{"a alone", counts{count(b(), 1), count(a(), 2), count(b(), 3)}, nil, counts{count(a(), 2), count(b(), 4)}, api.OK},
		{"b alone", nil, counts{count(b(), 1), count(a(), -2), count(b(), 3)}, counts{count(a(), 2), count(b(), -4)}, api.OK},
		{"both", counts{count(c(), 1), count(a(), 3)}, counts{count(b(), 4), count(a(), 1)}, counts{count(a(), 2), count(b(), -4), count(c(), 1)}, api.OK},
		{"alike", counts{count(a(), 3), count(b(), 1)}, counts{count(b(), 1), count(a(), 1), count(a(), 2)}, nil, api.OK},
		{"0 of either", counts{count(a(), 0)}, counts{count(b(), 0)}, nil, api.OK},
		{"no values", counts{count(nil, 3)}, counts{count(api.Row{}, 1)}, counts{count(nil, 2)}, api.OK},
		{"lowest less lowest", counts{count(a(), low)}, counts{count(a(), low)}, nil, api.OK},
		{"highest less highest", counts{count(a(), high)}, counts{count(a(), high)}, nil, api.OK},
		{"what may not be negated", counts{count(a(), -1)}, counts{count(a(), low)}, counts{count(a(), high)}, api.OK},
		{"to the lowest", counts{count(a(), -1)}, counts{count(a(), high)}, counts{count(a(), low)}, api.OK},
		{"what may not be negated, of nothing", nil, counts{count(a(), low)}, nil, api.ErrOver},
		{"what may not be negated, of 0", counts{count(a(), 0)}, counts{count(a(), low)}, nil, api.ErrOver},
		{"below the lowest", counts{count(a(), low)}, counts{count(a(), 1)}, nil, api.ErrOver},
		{"below the lowest", counts{count(a(), -2)}, counts{count(a(), high)}, nil, api.ErrOver},
		{"above the highest", counts{count(a(), high)}, counts{count(a(), -1)}, nil, api.ErrOver},
		{"would fit in the end: a", counts{count(a(), high), count(a(), 1)}, counts{count(a(), 5)}, nil, api.ErrOver},
		{"would fit in the end: b", counts{count(a(), low)}, counts{count(a(), 1), count(a(), -1)}, nil, api.ErrOver},
		{"fits in this order", counts{count(a(), low)}, counts{count(a(), -1), count(a(), 1)}, counts{count(a(), low)}, api.OK},
		{"b's are not added up first", counts{count(a(), high)}, counts{count(a(), high), count(a(), 1)}, counts{count(a(), -1)}, api.OK},
		{"b's are not added up first", counts{count(a(), 5)}, counts{count(a(), high), count(a(), high), count(a(), -high)}, nil, api.ErrOver},
		{"two rows", counts{count(b(), high), count(a(), low)}, counts{count(a(), 1), count(b(), -1)}, nil, api.ErrOver},
		{"the last row alone", counts{count(a(), 1), count(c(), low)}, counts{count(b(), 1), count(c(), 1)}, nil, api.ErrOver},
	} {
		got, e := zset.Less(k.x, k.y)
		holdCounts(t, k.name, got, e, k.want, k.e)
	}
}

func TestAdvance(t *testing.T) { // P7.3: told by hand
	l := ups{up(b(), 0, 0, 1), up(a(), 1, 1, 0), up(b(), 0, 5, low), up(b(), 3, 0, high), up(b(), 0, 0, 1)}
	moved := func(pairs ...int) ups {
		m := slices.Clone(l)
		for i := range m {
			m[i].Time = at(pairs[2*i], pairs[2*i+1])
		}
		return m
	}
	for _, k := range []struct {
		name    string
		l, want ups
		f       times
	}{
		{"no change", nil, nil, times{at(1, 1)}},
		{"no change, empty", ups{}, nil, nil},
		{"the empty frontier", l, moved(0, 0, 0, 0, 0, 0, 0, 0, 0, 0), nil},
		{"the empty frontier, empty", l, moved(0, 0, 0, 0, 0, 0, 0, 0, 0, 0), times{}},
		{"the first time", l, l, times{at(0, 0)}},
		{"one time", l, moved(1, 0, 1, 1, 1, 5, 3, 0, 1, 0), times{at(1, 0)}},
		{"another one", l, moved(2, 2, 2, 2, 2, 5, 3, 2, 2, 2), times{at(2, 2)}},
		{"two times", l, moved(0, 0, 1, 1, 0, 5, 3, 0, 0, 0), times{at(0, 2), at(2, 0)}},
		{"two times, both behind", l, moved(1, 2, 1, 2, 1, 5, 3, 2, 1, 2), times{at(1, 4), at(3, 2)}},
		{"no frontier", l, moved(1, 2, 1, 2, 1, 5, 3, 2, 1, 2), times{at(3, 2), at(1, 4), at(7, 7), at(3, 2)}},
		{"times that may not be", ups{up(a(), low, high, 1)}, ups{up(a(), -1, high, 1)}, times{at(-1, -1)}},
	} {
		holdUps(t, k.name, zset.Advance(k.l, k.f), api.OK, k.want, api.OK)
	}
}

func TestThePagesExample(t *testing.T) { // P7.1, P7.3
	got, e := zset.Consolidate(zset.Advance(ups{up(a(), 0, 0, 1), up(a(), 1, 0, -1)}, times{at(1, 0)}))
	holdUps(t, "advanced and consolidated", got, e, nil, api.OK)
}

func TestNegate(t *testing.T) { // P7.3: told by hand
	for _, k := range []struct {
		name    string
		l, want ups
		e       api.Errno
	}{
		{"no change", nil, nil, api.OK},
		{"no change, empty", ups{}, nil, api.OK},
		{"one change", ups{up(a(), 3, 4, 5)}, ups{up(a(), 3, 4, -5)}, api.OK},
		{"0 stays, and so does the order",
			ups{up(c(), 1, 0, 1), up(a(), 0, 1, 0), up(c(), 1, 0, -1), up(b(), 0, 0, -7), up(c(), 1, 0, 1)},
			ups{up(c(), 1, 0, -1), up(a(), 0, 1, 0), up(c(), 1, 0, 1), up(b(), 0, 0, 7), up(c(), 1, 0, -1)}, api.OK},
		{"the edges", ups{up(a(), 0, 0, high), up(a(), 0, 0, low+1), up(a(), 0, 0, high-1)}, ups{up(a(), 0, 0, -high), up(a(), 0, 0, high), up(a(), 0, 0, low+2)}, api.OK},
		{"what may not be negated", ups{up(a(), 0, 0, low)}, nil, api.ErrOver},
		{"the first one", ups{up(a(), 0, 0, low), up(b(), 0, 0, 1)}, nil, api.ErrOver},
		{"the last one", ups{up(a(), 0, 0, 1), up(b(), 0, 0, 2), up(a(), 0, 0, low)}, nil, api.ErrOver},
		{"two of them", ups{up(a(), 0, 0, low), up(b(), 0, 0, low)}, nil, api.ErrOver},
		{"times and rows that may not be", ups{up(api.Row{{Kind: 9}}, low, high, 1)}, ups{up(api.Row{{Kind: 9}}, low, high, -1)}, api.OK},
	} {
		got, e := zset.Negate(k.l)
		holdUps(t, k.name, got, e, k.want, k.e)
	}
}

func TestLower(t *testing.T) { // P7.3
	for _, k := range []struct {
		l    ups
		want times
	}{
		{nil, nil},
		{ups{}, nil},
		{ups{up(a(), 3, 4, 0)}, times{at(3, 4)}},
		{ups{up(a(), 2, 0, 1), up(b(), 0, 2, 1), up(a(), 2, 2, 1), up(c(), 2, 0, -1)}, times{at(0, 2), at(2, 0)}},
		{ups{up(a(), 2, 0, 1), up(b(), 0, 2, 1), up(b(), 0, 0, 0)}, times{at(0, 0)}}, // a Diff of 0 counts
		{ups{up(a(), 2, 0, 1), up(a(), 2, 0, -1)}, times{at(2, 0)}},                  // and so does a sum of 0
		{ups{up(a(), 3, 1, 1), up(a(), 1, 3, 1), up(a(), 2, 2, 1)}, times{at(1, 3), at(2, 2), at(3, 1)}},
		{ups{up(a(), high, low, 1), up(a(), low, high, 1), up(a(), 0, 0, low)}, times{at(low, high), at(0, 0), at(high, low)}},
	} {
		if got := zset.Lower(k.l); !slices.Equal(got, k.want) {
			t.Errorf("Lower(%v) = %v, want %v", k.l, got, k.want)
		}
	}
}

func TestSame(t *testing.T) { // P7.3
	l := ups{up(b(), 1, 0, 2), up(a(), 0, 1, 3), up(a(), 0, 1, 0)}
	turned := ups{l[1], l[0], l[2]}
	with := func(change func(u *api.Up)) ups {
		other := slices.Clone(l)
		change(&other[1])
		return other
	}
	for _, k := range []struct {
		name string
		x, y ups
		want bool
	}{
		{"nothing", nil, ups{}, true},
		{"itself", l, l, true},
		{"a copy", l, slices.Clone(l), true},
		{"one fewer", l, l[:2], false},
		{"none", l, nil, false},
		{"in another order", l, turned, false},
		{"another row", l, with(func(u *api.Up) { u.Row = c() }), false},
		{"a longer row", l, with(func(u *api.Up) { u.Row = b() }), false},
		{"another epoch", l, with(func(u *api.Up) { u.Time.Epoch++ }), false},
		{"another round", l, with(func(u *api.Up) { u.Time.Round++ }), false},
		{"another Diff", l, with(func(u *api.Up) { u.Diff = -u.Diff }), false},
		{"a sum that is the same", ups{up(a(), 0, 0, 2)}, ups{up(a(), 0, 0, 1), up(a(), 0, 0, 1)}, false},
		{"0 and nothing", ups{up(a(), 0, 0, 0)}, nil, false},
		{"no values", ups{up(nil, 0, 0, 1)}, ups{up(api.Row{}, 0, 0, 1)}, true},
		{"a value more", ups{up(nil, 0, 0, 1)}, ups{up(a(), 0, 0, 1)}, false},
		{"kinds that are none", ups{up(api.Row{{Kind: 9, Int: 1}}, 0, 0, 1)}, ups{up(api.Row{{Kind: 9, Str: "x"}}, 0, 0, 1)}, true},
		{"two that are none", ups{up(api.Row{{Kind: 9}}, 0, 0, 1)}, ups{up(api.Row{{Kind: 8}}, 0, 0, 1)}, false},
	} {
		if zset.Same(k.x, k.y) != k.want || zset.Same(k.y, k.x) != k.want {
			t.Errorf("%s: Same is not %v", k.name, k.want)
		}
	}
}

// lists are all lists of up to three of some changes, and longer ones by a rule.
func lists() []ups {
	var few ups
	for _, r := range []api.Row{b(), a()} {
		for _, u := range (times{at(0, 0), at(0, 1), at(1, 0)}) {
			for _, diff := range []int{1, -1, 0, high, low} {
				few = append(few, api.Up{Row: laden(r, len(few)), Time: u, Diff: diff})
			}
		}
	}
	all := []ups{nil}
	for from := 0; len(all[from]) < 3; from++ {
		for _, u := range few {
			all = append(all, append(slices.Clone(all[from]), u))
		}
	}
	return append(all, longer(400)...)
}

// longer are lists of up to 40 changes, of which every second one has small Diffs alone.
func longer(many int) []ups {
	rows, state := risingRows(), uint64(7)
	next := func(below int) int {
		state = state*6364136223846793005 + 1442695040888963407
		return int(state>>33) % below
	}
	great := []int{high, low, high - 1, low + 1, 1 << 62, -1 << 62, -high}
	var all []ups
	for i := range many {
		var l ups
		kinds, sparse := 1+next(len(rows)), 1+next(9)
		for range next(41) {
			u := up(laden(rows[next(kinds)], next(5)), next(3), next(3), next(5)-2)
			if i%2 == 1 && next(sparse) == 0 {
				u.Diff = great[next(len(great))]
			}
			l = append(l, u)
		}
		all = append(all, l)
	}
	return all
}

// frontiers are some that lists are advanced to, with the empty one and one that is none.
func frontiers() []times {
	return []times{
		nil,
		{at(0, 0)},
		{at(1, 0)},
		{at(0, 1)},
		{at(1, 1)},
		{at(0, 2), at(2, 0)},
		{at(0, 3), at(1, 1), at(2, 0)},
		{at(3, 3)},
		{at(2, 1), at(1, 2), at(2, 2)},
		{at(-1, 2), at(2, -1)},
	}
}

func holdList(t *testing.T, l ups) {
	t.Helper()
	got, e := zset.Consolidate(l)
	want, wantErr := consolidated(l)
	holdUps(t, "Consolidate", got, e, want, wantErr)
	for _, u := range (times{at(0, 0), at(0, 1), at(1, 0), at(1, 2), at(2, 2), at(-1, 3)}) {
		there, e := zset.At(l, u)
		wantThere, wantErr := thereAt(l, u)
		holdCounts(t, "At", there, e, wantThere, wantErr)
	}
	for from := 0; from <= len(l); from += 1 + len(l)/3 {
		x, y := ofCounts(l[:from]), ofCounts(l[from:])
		told, e := zset.Less(x, y)
		wantTold, wantErr := lessOf(x, y)
		holdCounts(t, "Less", told, e, wantTold, wantErr)
	}
	holdOneByOne(t, l)
}

// holdOneByOne asks what is done with each change by itself.
func holdOneByOne(t *testing.T, l ups) {
	t.Helper()
	var negated ups
	var all times
	var e api.Errno
	for _, u := range l {
		all = append(all, u.Time)
		if u.Diff == low {
			e = api.ErrOver
		}
		negated = append(negated, api.Up{Row: u.Row, Time: u.Time, Diff: -u.Diff})
	}
	if e != api.OK {
		negated = nil
	}
	got, gotErr := zset.Negate(l)
	holdUps(t, "Negate", got, gotErr, negated, e)
	if lower := zset.Lower(l); !slices.Equal(lower, front.New(all)) {
		t.Fatalf("Lower(%v) = %v", l, lower)
	}
	for _, f := range frontiers() {
		advanced := slices.Clone(l)
		for i := range advanced {
			advanced[i].Time = front.Rep(f, advanced[i].Time)
		}
		holdUps(t, "Advance", zset.Advance(l, f), api.OK, advanced, api.OK)
	}
}

func TestLists(t *testing.T) { // P7.1 to P7.3: as the chapter says them, with no sort and in numbers of any length
	for _, l := range lists() {
		holdList(t, l)
	}
}

func TestSameOfLists(t *testing.T) { // P7.3
	all := append(lists()[:1000], longer(60)...)
	for i, x := range all {
		for _, k := range []int{0, 1, 2, 5, 30, 31, 150, 900} {
			y := all[(i+k)%len(all)]
			if zset.Same(x, y) != equalUps(x, y) {
				t.Fatalf("Same(%v, %v) = %v", x, y, !equalUps(x, y))
			}
		}
	}
}

// holdStays asks that what there is at some times is the same by another list, where nothing is too great.
func holdStays(t *testing.T, l, other ups, asked func(u api.Time) bool) (some bool) {
	t.Helper()
	for _, u := range square() {
		if !asked(u) {
			continue
		}
		x, e := zset.At(l, u)
		if e != api.OK {
			continue
		}
		y, e := zset.At(other, u)
		if e == api.OK && !equalCounts(x, y) {
			t.Fatalf("at %v there is %v of %v, and %v of %v", u, x, l, y, other)
		}
		some = some || e == api.OK
	}
	return some
}

func TestWhatThereIsStaysByConsolidate(t *testing.T) { // P7.4
	held := 0
	for _, l := range lists() {
		once, e := zset.Consolidate(l)
		if e != api.OK {
			continue
		}
		if holdStays(t, l, once, func(api.Time) bool { return true }) {
			held++
		}
		twice, e := zset.Consolidate(once)
		holdUps(t, "Consolidate of it", twice, e, once, api.OK)
	}
	if held < 10000 {
		t.Errorf("only %d lists were asked", held)
	}
}

func TestWhatThereIsStaysByAdvance(t *testing.T) { // P7.4
	held := 0
	for _, l := range append(lists()[:1000], longer(300)...) {
		for _, f := range frontiers() {
			ahead := func(u api.Time) bool { return front.Ahead(f, u) }
			advanced := zset.Advance(l, f)
			if holdStays(t, l, advanced, ahead) {
				held++
			}
			if once, e := zset.Consolidate(advanced); e == api.OK {
				holdStays(t, l, once, ahead)
			}
		}
	}
	if held < 8000 {
		t.Errorf("only %d lists were asked", held)
	}
}

func TestWhatIsSmallNeverFails(t *testing.T) { // P7.4: where nothing is too great, all of it holds without an error
	for i, l := range longer(400) {
		if i%2 == 1 {
			continue
		}
		once, e := zset.Consolidate(l)
		if e != api.OK {
			t.Fatalf("Consolidate(%v): %d", l, int(e))
		}
		away, e := zset.Negate(l)
		if e != api.OK {
			t.Fatalf("Negate(%v): %d", l, int(e))
		}
		nothing, e := zset.Consolidate(slices.Concat(l, away))
		holdUps(t, "with its negative", nothing, e, nil, api.OK)
		for _, u := range square() {
			x, e := zset.At(l, u)
			y, f := zset.At(once, u)
			holdCounts(t, "At", x, e, y, api.OK)
			holdCounts(t, "At", y, f, x, api.OK)
			rest, e := zset.Less(x, y)
			holdCounts(t, "Less of the same", rest, e, nil, api.OK)
		}
		for _, f := range frontiers() {
			advanced, e := zset.Consolidate(zset.Advance(l, f))
			if e != api.OK {
				t.Fatalf("Consolidate of Advance(%v, %v): %d", l, f, int(e))
			}
			for _, u := range square() {
				if !front.Ahead(f, u) {
					continue
				}
				x, e := zset.At(l, u)
				y, g := zset.At(advanced, u)
				holdCounts(t, "At, advanced", y, g, x, e)
			}
		}
	}
}

func TestConsolidatedRises(t *testing.T) { // P7.1: by Order, each once, and none is 0
	for _, l := range lists() {
		got, e := zset.Consolidate(l)
		if e != api.OK {
			continue
		}
		for i, u := range got {
			if u.Diff == 0 || i > 0 && zset.Order(got[i-1], u) >= 0 {
				t.Fatalf("Consolidate(%v) = %v", l, got)
			}
		}
	}
}

func TestMany(t *testing.T) { // P7.1, P7.2: of each row and time there are many
	const many, rows, rounds = 1 << 17, 100, 7
	var l ups
	for i := range many {
		l = append(l, up(api.Row{n(i * 31 % rows)}, 0, i%rounds, 1))
	}
	got, e := zset.Consolidate(l)
	if e != api.OK || len(got) != rows*rounds {
		t.Fatalf("%d changes, %d", len(got), int(e))
	}
	sum := 0
	for i, u := range got {
		if u.Row[0].Int != i/rounds || u.Time != at(0, i%rounds) {
			t.Fatalf("%v at place %d", u, i)
		}
		sum += u.Diff
	}
	if sum != many {
		t.Errorf("%d in all", sum)
	}
	there, e := zset.At(l, at(0, 0))
	if e != api.OK || len(there) != rows {
		t.Errorf("%d counts, %d", len(there), int(e))
	}
	if lower := zset.Lower(l); !slices.Equal(lower, times{at(0, 0)}) {
		t.Errorf("Lower: %v", lower)
	}
}

// roomyRow is the row with spare room behind it that is filled.
func roomyRow(r api.Row) api.Row { return append(slices.Clone(r), n(-77), s("room"))[:len(r)] }

// roomyUps is the list, all of whose rows stand in one piece of memory, each in the spare room of the one ahead of it; every third one is the very list of the one ahead.
func roomyUps(l ups) ups {
	var cells api.Row
	for _, u := range l {
		cells = append(cells, u.Row...)
	}
	cells = append(cells, s("room"), n(-77))
	from := 0
	var roomy ups
	for i, u := range l {
		u.Row = cells[from : from+len(u.Row)]
		from += len(u.Row)
		if i%3 == 2 {
			u.Row = roomy[i-1].Row
		}
		roomy = append(roomy, u)
	}
	roomy = append(roomy, up(roomyRow(a()), 9, 9, -99), up(roomyRow(c()), low, high, high))
	return roomy[:len(l)]
}

func roomyTimes(f times) times { return append(slices.Clone(f), at(-5, -5), at(77, 7))[:len(f)] }

// roomyCounts is the changes of a roomy list without their times, with their very rows.
func roomyCounts(l ups) counts {
	return append(ofCounts(l), count(roomyRow(b()), 5), count(nil, high))[:len(l)]
}

// deep is a copy of the list and its rows with their spare room.
func deep(l ups) ups {
	copied := slices.Clone(l[:cap(l)])
	for i, u := range copied {
		copied[i].Row = slices.Clone(u.Row[:cap(u.Row)])
	}
	return copied
}

// tight is a copy of the list and its rows with no spare room.
func tight(l ups) ups {
	copied := slices.Clip(slices.Clone(l))
	for i, u := range copied {
		copied[i].Row = slices.Clip(slices.Clone(u.Row))
	}
	return copied
}

func deepCounts(l counts) counts {
	copied := slices.Clone(l[:cap(l)])
	for i, c := range copied {
		copied[i].Row = slices.Clone(c.Row[:cap(c.Row)])
	}
	return copied
}

// places are where lists stand in memory, their spare room too: the place of each item.
type places map[any]bool

// take adds a list's places, and tells whether one was there already.
func take[E any](p places, l []E) (shared bool) {
	l = l[:cap(l)]
	for i := range l {
		shared = shared || p[&l[i]]
		p[&l[i]] = true
	}
	return shared
}

func (p places) takeUps(l ups) (shared bool) {
	shared = take(p, l)
	for _, u := range l[:cap(l)] {
		shared = take(p, u.Row) || shared
	}
	return shared
}

func (p places) takeCounts(l counts) (shared bool) {
	shared = take(p, l)
	for _, c := range l[:cap(l)] {
		shared = take(p, c.Row) || shared
	}
	return shared
}

// someLists are ordinary ones, and such as fail.
func someLists() []ups {
	all := lists()
	var some []ups
	for i := 0; i < len(all); i += 97 {
		some = append(some, all[i])
	}
	return append(some, longer(200)...)
}

func TestAnswersAreNewMemory(t *testing.T) { // the rule of memory
	for i, plain := range someLists() {
		l, f := roomyUps(plain), roomyTimes(frontiers()[i%len(frontiers())])
		x, y := roomyCounts(l), roomyCounts(l[len(l)/2:])
		seen := places{}
		seen.takeUps(l)
		seen.takeCounts(x)
		seen.takeCounts(y)
		take(seen, f)
		for range 2 { // the second answer shares nothing with the first
			consolidated, _ := zset.Consolidate(l)
			there, _ := zset.At(l, at(2, 1))
			negated, _ := zset.Negate(l)
			less, _ := zset.Less(x, y)
			for name, shared := range map[string]bool{
				"Consolidate": seen.takeUps(consolidated),
				"At":          seen.takeCounts(there),
				"Negate":      seen.takeUps(negated),
				"Less":        seen.takeCounts(less),
				"Advance":     seen.takeUps(zset.Advance(l, f)),
				"Lower":       take(seen, zset.Lower(l)),
			} {
				if shared {
					t.Fatalf("%s of %v: the answer shares memory", name, l)
				}
			}
		}
	}
}

// askAll calls every function.
func askAll(l ups, f times, x, y counts) []any {
	consolidated, e1 := zset.Consolidate(l)
	there, e2 := zset.At(l, at(2, 1))
	negated, e3 := zset.Negate(l)
	less, e4 := zset.Less(x, y)
	same := zset.Same(l, slices.Clone(l)) && zset.Same(l, l)
	order := 0
	if len(l) > 1 {
		order = zset.Order(l[0], l[1])
	}
	return []any{consolidated, e1, there, e2, negated, e3, less, e4, zset.Advance(l, f), zset.Lower(l), same, order}
}

func TestWhatIsHandedInIsLeft(t *testing.T) { // the rule of memory
	for i, plain := range someLists() {
		f := roomyTimes(frontiers()[i%len(frontiers())])
		l := roomyUps(plain)
		x, y := roomyCounts(l), roomyCounts(l[len(l)/2:])
		wasL, wasF, wasX, wasY := deep(l), slices.Clone(f[:cap(f)]), deepCounts(x), deepCounts(y)
		told := askAll(l, f, x, y)
		if !reflect.DeepEqual(deep(l), wasL) || !slices.Equal(f[:cap(f)], wasF) || !reflect.DeepEqual(deepCounts(x), wasX) || !reflect.DeepEqual(deepCounts(y), wasY) {
			t.Fatalf("%v, %v, %v or %v was changed", plain, f, x, y)
		}
		bare := tight(l)
		again := askAll(bare, slices.Clip(slices.Clone(f)), slices.Clip(ofCounts(bare)), slices.Clip(ofCounts(bare[len(l)/2:])))
		scribble(l, f, x, y)
		if !reflect.DeepEqual(told, again) {
			t.Fatalf("%v was kept, or its spare room counts", plain)
		}
	}
}

func scribble(l ups, f times, x, y counts) {
	for i, u := range l[:cap(l)] {
		for k := range u.Row[:cap(u.Row)] {
			u.Row[:cap(u.Row)][k] = s("scribbled")
		}
		l[:cap(l)][i] = api.Up{Diff: 99}
	}
	for _, c := range []counts{x, y} {
		for i := range c[:cap(c)] {
			c[:cap(c)][i] = count(nil, 99)
		}
	}
	for i := range f[:cap(f)] {
		f[:cap(f)][i] = at(99, 99)
	}
}

func TestNilIsEmpty(t *testing.T) { // the rule of memory
	one, two := askAll(nil, nil, nil, nil), askAll(ups{}, times{}, counts{}, counts{})
	for i, told := range [][]any{one, two} {
		for k, answer := range told {
			v := reflect.ValueOf(answer)
			if v.Kind() == reflect.Slice && v.Len() != 0 {
				t.Errorf("%d: answer %d of nothing is %v", i, k, answer)
			}
			if e, ok := answer.(api.Errno); ok && e != api.OK {
				t.Errorf("%d: answer %d of nothing is the error %d", i, k, int(e))
			}
		}
	}
	if !zset.Same(nil, ups{}) || !zset.Same(ups{}, nil) {
		t.Error("Same tells nil and empty apart")
	}
	for _, r := range []api.Row{nil, {}} {
		got := zset.Advance(ups{up(r, 1, 0, 1)}, times{at(0, 1)})
		holdUps(t, "Advance", got, api.OK, ups{up(nil, 1, 1, 1)}, api.OK)
		if order := zset.Order(up(r, 0, 0, 1), up(nil, 0, 0, 1)); order != 0 {
			t.Errorf("Order = %d", order)
		}
	}
}

func TestAnswersHangOnArgumentsAlone(t *testing.T) { // what was too great ahead of a call plays no part in it
	l := ups{up(b(), 0, 0, 2), up(a(), 0, 1, 3), up(b(), 0, 0, 1)}
	for range 2 {
		zset.Consolidate(ups{up(a(), 0, 0, high), up(a(), 0, 0, 1)})
		zset.At(ups{up(a(), 0, 0, high), up(a(), 0, 0, 1)}, at(0, 0))
		zset.Negate(ups{up(a(), 0, 0, low)})
		zset.Less(nil, counts{count(a(), low)})
		holdList(t, l)
		got, e := zset.Consolidate(l)
		holdUps(t, "Consolidate", got, e, ups{up(a(), 0, 1, 3), up(b(), 0, 0, 3)}, api.OK)
	}
}

func FuzzChanges(f *testing.F) { // P7.1 to P7.4
	f.Add([]byte{0, 1, 2, 3, 7, 8, 9, 4})
	f.Add([]byte("a list of changes, told by any bytes at all"))
	f.Add(slices.Repeat([]byte{6, 0, 0, 6, 0, 6, 6, 1}, 8))
	f.Fuzz(func(t *testing.T, text []byte) {
		l := listOf(text[:min(len(text), 240)])
		holdList(t, l)
		once, e := zset.Consolidate(l)
		if e != api.OK {
			return
		}
		twice, e := zset.Consolidate(once)
		holdUps(t, "Consolidate of it", twice, e, once, api.OK)
		holdStays(t, l, once, func(api.Time) bool { return true })
		g := zset.Lower(l)
		if len(l) > 0 {
			g = times{moment.Join(l[0].Time, l[len(l)-1].Time)}
		}
		holdStays(t, l, zset.Advance(l, g), func(u api.Time) bool { return front.Ahead(g, u) })
	})
}

// listOf is a change for each three bytes: its row, its time, its Diff.
func listOf(text []byte) ups {
	rows := risingRows()
	diffs := []int{1, -1, 2, high, low, low + 1, -high, 1 << 62, 0, 3}
	var l ups
	for ; len(text) >= 3; text = text[3:] {
		r := laden(rows[int(text[0])%len(rows)], int(text[0])/len(rows))
		l = append(l, up(r, int(text[1]>>2)%4, int(text[1])%4, diffs[int(text[2])%len(diffs)]))
	}
	return l
}

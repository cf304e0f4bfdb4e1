package hold_test

import (
	"fmt"
	"math"
	"slices"
	"strings"
	"testing"

	"runnel/api"
	"runnel/hold"
	"runnel/moment"
	"runnel/row"
)

const (
	low  = math.MinInt
	high = math.MaxInt
)

func n(x int) api.Val    { return api.Val{Kind: api.KindInt, Int: x} }
func s(x string) api.Val { return api.Val{Kind: api.KindStr, Str: x} }

// odd is a value whose kind is none.
func odd(kind int) api.Val { return api.Val{Kind: kind, Int: 7, Str: "odd"} }

// r is a row of numbers, texts and values.
func r(values ...any) api.Row {
	var l api.Row
	for _, v := range values {
		switch x := v.(type) {
		case int:
			l = append(l, n(x))
		case string:
			l = append(l, s(x))
		case api.Val:
			l = append(l, x)
		}
	}
	return l
}

func at(epoch, round int) api.Time { return api.Time{Epoch: epoch, Round: round} }

func times(l ...api.Time) []api.Time { return l }

func up(r api.Row, epoch, round, diff int) api.Up {
	return api.Up{Row: r, Time: at(epoch, round), Diff: diff}
}

func ups(l ...api.Up) []api.Up { return l }

func same(u, v api.Up) bool {
	return row.Same(u.Row, v.Row) && u.Time == v.Time && u.Diff == v.Diff
}

func isNothing(u api.Up) bool { return u.Row == nil && u.Time == at(0, 0) && u.Diff == 0 }

// copied is a list of changes in memory of its own.
func copied(l []api.Up) []api.Up {
	var own []api.Up
	for _, u := range l {
		u.Row = slices.Clone(u.Row)
		own = append(own, u)
	}
	return own
}

// told is x as a text that is not too long to be read.
func told(x any) string {
	text := strings.ToValidUTF8(fmt.Sprintf("%+v", x), "?")
	if len(text) > 500 {
		text = text[:500] + " .."
	}
	return text
}

// order is the one in which changes are told: by times, then by rows.
func order(u, v api.Up) int {
	if u.Time != v.Time {
		return moment.Order(u.Time, v.Time)
	}
	return row.Order(u.Row, v.Row)
}

// advanced: is one of f not above t in either way?
func advanced(f []api.Time, t api.Time) bool {
	return slices.ContainsFunc(f, func(u api.Time) bool { return u.Epoch <= t.Epoch && u.Round <= t.Round })
}

// least are the times to which no other one is LessEq, told by each two.
func least(l []api.Time) []api.Time {
	l = slices.Clone(l)
	slices.SortFunc(l, moment.Order)
	l = slices.Compact(l)
	var told []api.Time
	for _, t := range l {
		others := slices.DeleteFunc(slices.Clone(l), func(u api.Time) bool { return u == t })
		if !advanced(others, t) {
			told = append(told, t)
		}
	}
	return told
}

// watched is a hold, and what the chapter says of it: a plain list in no order.
type watched struct {
	t     *testing.T
	name  string
	h     *hold.Hold
	list  []api.Up
	added []api.Up // all that was taken, one behind the other
	next  []api.Up // all that was told
	most  int      // so many were held at a time
}

func watch(t *testing.T, name string) *watched {
	t.Helper()
	w := &watched{t: t, name: name, h: hold.New()}
	if w.h == nil {
		t.Fatalf("%s: New tells nil", name)
	}
	w.hold("new")
	return w
}

// hold asks all that may be asked.
func (w *watched) hold(step string) {
	w.t.Helper()
	want := slices.SortedFunc(slices.Values(w.list), order)
	if got := w.h.Len(); got != len(want) {
		w.t.Fatalf("%s, %s: Len is %d, want %d", w.name, step, got, len(want))
	}
	if got := w.h.Ups(); !slices.EqualFunc(got, want, same) {
		w.t.Fatalf("%s, %s: Ups is %s, want %s", w.name, step, told(got), told(want))
	}
	var l []api.Time
	for _, u := range want {
		l = append(l, u.Time)
	}
	if got := w.h.Lower(); !slices.Equal(got, least(l)) {
		w.t.Fatalf("%s, %s: Lower is %s, want %s", w.name, step, told(got), told(least(l)))
	}
}

// plus is a sum that is told to be too great, or too small, by its sign.
func plus(a, b int) (int, bool) {
	sum := a + b
	return sum, (a < 0) != (b < 0) || (sum < 0) == (a < 0)
}

// addOnly and nextOnly ask no more than the call itself does.
func (w *watched) addOnly(u api.Up) api.Errno {
	w.t.Helper()
	i := slices.IndexFunc(w.list, func(v api.Up) bool { return row.Same(u.Row, v.Row) && u.Time == v.Time })
	if i < 0 {
		i = len(w.list)
		w.list = append(w.list, copied(ups(api.Up{Row: u.Row, Time: u.Time}))...)
	}
	sum, fits := plus(w.list[i].Diff, u.Diff)
	want := api.ErrOver
	if fits {
		want = api.OK
		w.list[i].Diff = sum
		w.added = append(w.added, copied(ups(u))...)
	}
	if w.list[i].Diff == 0 {
		w.drop(i)
	}
	if e := w.h.Add(u); e != want {
		w.t.Fatalf("%s: Add of %s: error %d, want %d", w.name, told(u), int(e), int(want))
	}
	w.most = max(w.most, len(w.list))
	return want
}

// drop takes one out of the plain list, in which the last one comes to its place.
func (w *watched) drop(i int) {
	last := len(w.list) - 1
	w.list[i] = w.list[last]
	w.list = w.list[:last]
}

func (w *watched) nextOnly(f []api.Time) bool {
	w.t.Helper()
	first := -1
	for i, u := range w.list {
		if !advanced(f, u.Time) && (first < 0 || order(u, w.list[first]) < 0) {
			first = i
		}
	}
	got, ok := w.h.Next(f)
	if first < 0 {
		if ok || !isNothing(got) {
			w.t.Fatalf("%s: Next of %s: %s, %v; want none", w.name, told(f), told(got), ok)
		}
		return false
	}
	if want := w.list[first]; !ok || !same(got, want) {
		w.t.Fatalf("%s: Next of %s: %s, %v; want %s", w.name, told(f), told(got), ok, told(want))
	}
	if advanced(f, got.Time) {
		w.t.Fatalf("%s: Next of %s: %s is in advance of it", w.name, told(f), told(got))
	}
	w.next = append(w.next, w.list[first])
	w.drop(first)
	return true
}

func (w *watched) add(l ...api.Up) {
	w.t.Helper()
	for _, u := range l {
		if e := w.addOnly(u); e != api.OK {
			w.t.Fatalf("%s: Add of %s: error %d", w.name, told(u), int(e))
		}
		w.hold("Add of " + told(u))
	}
}

// refuses is an Add whose sum is none: nothing has changed.
func (w *watched) refuses(u api.Up) {
	w.t.Helper()
	if e := w.addOnly(u); e != api.ErrOver {
		w.t.Fatalf("%s: Add of %s: error %d, want ErrOver", w.name, told(u), int(e))
	}
	w.hold("refused Add of " + told(u))
}

// tells is a Next that tells these, one after the other, and then none.
func (w *watched) tells(f []api.Time, want ...api.Up) {
	w.t.Helper()
	for _, u := range want {
		if !w.nextOnly(f) || !same(w.next[len(w.next)-1], u) {
			w.t.Fatalf("%s: Next of %s is not %s", w.name, told(f), told(u))
		}
		w.hold("Next of " + told(f))
	}
	if w.nextOnly(f) {
		w.t.Fatalf("%s: Next of %s tells one more: %s", w.name, told(f), told(w.next[len(w.next)-1]))
	}
	w.hold("Next of " + told(f) + ", none")
}

// all takes what is held, one after the other.
func (w *watched) all() {
	w.t.Helper()
	w.tells(nil, slices.SortedFunc(slices.Values(w.list), order)...)
	if w.h.Len() != 0 {
		w.t.Fatalf("%s: Len is %d behind all", w.name, w.h.Len())
	}
}

func TestThePage(t *testing.T) { // P21.1: the page's example
	a, b := r("a"), r("b")
	h := hold.New()
	for _, u := range ups(up(a, 1, 0, 1), up(b, 0, 0, 1), up(a, 1, 0, -1)) {
		if e := h.Add(u); e != api.OK {
			t.Fatalf("Add of %v: error %d", u, int(e))
		}
	}
	if h.Len() != 1 {
		t.Fatalf("Len %d", h.Len())
	}
	if u, ok := h.Next(times(at(1, 0))); !ok || !same(u, up(b, 0, 0, 1)) {
		t.Fatalf("Next: %v, %v", u, ok)
	}
	if u, ok := h.Next(times(at(1, 0))); ok || !isNothing(u) || h.Len() != 0 {
		t.Fatalf("Next: %v, %v, Len %d", u, ok, h.Len())
	}
}

func TestByHand(t *testing.T) { // P21.1: each call, told by hand
	h := hold.New()
	ask := func(step string, lower []api.Time, want ...api.Up) {
		t.Helper()
		if h.Len() != len(want) || !slices.EqualFunc(h.Ups(), want, same) || !slices.Equal(h.Lower(), lower) {
			t.Fatalf("%s: Len %d, Ups %v, Lower %v", step, h.Len(), h.Ups(), h.Lower())
		}
	}
	next := func(want api.Up, f ...api.Time) {
		t.Helper()
		if u, ok := h.Next(f); !ok || !same(u, want) {
			t.Fatalf("Next of %v: %v, %v, want %v", f, u, ok, want)
		}
	}
	none := func(f ...api.Time) {
		t.Helper()
		if u, ok := h.Next(f); ok || !isNothing(u) {
			t.Fatalf("Next of %v: %v, %v", f, u, ok)
		}
	}
	ask("new", nil)
	h.Add(up(r(2), 1, 2, 5))
	ask("one", times(at(1, 2)), up(r(2), 1, 2, 5))
	h.Add(up(r(1), 2, 0, 1))
	h.Add(up(r(1), 1, 2, -1))
	ask("three", times(at(1, 2), at(2, 0)), up(r(1), 1, 2, -1), up(r(2), 1, 2, 5), up(r(1), 2, 0, 1))
	h.Add(up(r(2), 1, 2, -2))
	ask("less of one", times(at(1, 2), at(2, 0)), up(r(1), 1, 2, -1), up(r(2), 1, 2, 3), up(r(1), 2, 0, 1))
	none(at(1, 2), at(2, 0))
	none(at(0, 0))
	next(up(r(1), 2, 0, 1), at(1, 1)) // the first two are in advance of (1, 1), the last one is not
	ask("two", times(at(1, 2)), up(r(1), 1, 2, -1), up(r(2), 1, 2, 3))
	none(at(1, 1))
	next(up(r(1), 1, 2, -1), at(0, 3), at(2, 0))
	ask("one again", times(at(1, 2)), up(r(2), 1, 2, 3))
	h.Add(up(r(2), 1, 2, -3))
	ask("none", nil)
	none()
	h.Add(up(r(2), 1, 2, 4))
	ask("anew", times(at(1, 2)), up(r(2), 1, 2, 4))
	next(up(r(2), 1, 2, 4))
	ask("none again", nil)
}

func TestNilHold(t *testing.T) { // P21.1: ErrNil, none, zeros, nothing
	var h *hold.Hold
	for _, u := range ups(api.Up{}, up(r(1), 0, 0, 1), up(nil, -1, -1, 0), up(r("a"), high, low, high)) {
		if e := h.Add(u); e != api.ErrNil {
			t.Errorf("Add of %v: error %d", u, int(e))
		}
	}
	for _, f := range [][]api.Time{nil, {}, {at(0, 0)}, {at(5, 5), at(1, 1)}} {
		if u, ok := h.Next(f); ok || !isNothing(u) {
			t.Errorf("Next of %v: %v, %v", f, u, ok)
		}
	}
	if h.Len() != 0 || len(h.Lower()) != 0 || len(h.Ups()) != 0 {
		t.Errorf("Len %d, Lower %v, Ups %v", h.Len(), h.Lower(), h.Ups())
	}
}

func TestZeroValueEnds(t *testing.T) { // the rule of ends: what it answers is open
	var h hold.Hold
	h.Len()
	h.Lower()
	h.Ups()
	h.Next(nil)
	h.Next(times(at(0, 0)))
	h.Add(up(r(1), 1, 1, 1))
	h.Next(nil)
}

func TestNothingIsHeld(t *testing.T) { // P21.1: a hold that never had any, and one that has none any more
	w := watch(t, "nothing")
	nothing := func() {
		t.Helper()
		for _, f := range [][]api.Time{nil, {}, {at(0, 0)}, {at(9, 9)}, {at(0, 3), at(3, 0)}} {
			w.tells(f)
		}
		if w.h.Len() != 0 || len(w.h.Ups()) != 0 || len(w.h.Lower()) != 0 {
			t.Fatalf("Len %d, Ups %v, Lower %v", w.h.Len(), w.h.Ups(), w.h.Lower())
		}
	}
	nothing()
	w.add(up(r(1), 1, 1, 1))
	w.tells(nil, up(r(1), 1, 1, 1))
	nothing()
	w.add(up(r(1), 1, 1, 1), up(r(1), 1, 1, -1))
	nothing()
	w.add(up(r(1), 1, 1, 2), up(r(2), 1, 1, 2), up(r(1), 0, 1, 2))
	w.all()
	nothing()
	w.add(up(r(1), 1, 1, 2), up(r(2), 1, 1, 2), up(r(2), 1, 1, -2), up(r(1), 1, 1, -2))
	nothing()
}

func TestDiffsOfZero(t *testing.T) { // P21.1: added to what is held, to what is not, and to what is held no more
	w := watch(t, "zeros")
	w.add(up(r(1), 1, 1, 0), up(nil, 0, 0, 0), api.Up{})
	if w.h.Len() != 0 {
		t.Fatalf("Len %d", w.h.Len())
	}
	w.add(up(r(1), 1, 1, 3), up(r(1), 1, 1, 0), up(r(2), 1, 1, 0), up(r(1), 1, 2, 0), up(r(1), 0, 1, 0), up(r(0), 1, 1, 0), up(r(1, 1), 1, 1, 0))
	if w.h.Len() != 1 {
		t.Fatalf("Len %d", w.h.Len())
	}
	w.add(up(r(1), 1, 1, -3), up(r(1), 1, 1, 0))
	w.all()
	w.add(up(r(1), 1, 1, low), up(r(1), 1, 1, 0), up(r(2), 1, 1, high), up(r(2), 1, 1, 0))
	w.tells(nil, up(r(1), 1, 1, low), up(r(2), 1, 1, high))
	w.add(up(r(1), 1, 1, 0))
	w.all()
}

func TestComesToZero(t *testing.T) { // P21.1: held no more, first, in the middle and last; and added anew
	for gone := range 5 {
		w := watch(t, fmt.Sprint("number ", gone, " goes"))
		for i := range 5 {
			w.add(up(r(i%2), i/2, 3, 2+i))
		}
		u := w.list[gone]
		w.add(up(u.Row, u.Time.Epoch, u.Time.Round, -1), up(u.Row, u.Time.Epoch, u.Time.Round, 1-u.Diff))
		if w.h.Len() != 4 {
			t.Fatalf("Len %d", w.h.Len())
		}
		w.add(up(u.Row, u.Time.Epoch, u.Time.Round, -9))
		if w.h.Len() != 5 {
			t.Fatalf("Len %d", w.h.Len())
		}
		w.add(up(u.Row, u.Time.Epoch, u.Time.Round, 9))
		w.all()
		w.add(u)
		w.tells(nil, u)
	}
}

func TestGoesThroughZero(t *testing.T) { // P21.1: a sum that changes its sign is held all the while
	w := watch(t, "signs")
	for _, diff := range []int{2, -3, 5, -5, 2, -2, 1, -1, -1, 1, 4} {
		w.add(up(r("x"), 2, 2, diff))
	}
	w.tells(times(at(3, 0)), up(r("x"), 2, 2, 3))
}

func TestGreatSums(t *testing.T) { // P21.1: sums that come just to the least and to the greatest number, and one further
	one, two := r(1), r(2)
	for _, k := range []struct {
		name         string
		fits         []int
		over, behind int
		sum          int
	}{
		{"just the greatest", []int{high - 1, 1}, 1, -1, high - 1},
		{"just the least", []int{low + 1, -1}, -1, 1, low + 1},
		{"the greatest at once", []int{high}, 1, 0, high},
		{"the least at once", []int{low}, -1, 0, low},
		{"the greatest twice", []int{high}, high, -high + 1, 1},
		{"the least twice", []int{low}, low, high, -1},
		{"up from the least to the greatest", []int{low, high, high}, 2, 1, high},
		{"two halves", []int{1 << 62, 1<<62 - 1}, 1, low, -1},
		{"two halves below", []int{-1 << 62, -1 << 62}, -1, high, -1},
		{"one further than the greatest", []int{1}, high, high - 1, high},
		{"one further than the least", []int{-1}, low, low + 1, low},
		{"over, and then to nothing", []int{high}, 7, -high, 0},
		{"under, and then on", []int{-high}, low, -1, low},
	} {
		w := watch(t, k.name)
		w.add(up(two, 1, 1, 7), up(one, 1, 0, 8))
		for _, diff := range k.fits {
			w.add(up(one, 1, 1, diff))
		}
		for range 2 {
			w.refuses(up(one, 1, 1, k.over))
		}
		w.tells(times(at(1, 0)))
		w.tells(times(at(1, 1)), up(one, 1, 0, 8)) // as ahead of it
		w.add(up(one, 1, 1, k.behind))
		if k.sum == 0 {
			w.tells(nil, up(two, 1, 1, 7))
			continue
		}
		w.tells(nil, up(one, 1, 1, k.sum), up(two, 1, 1, 7))
	}
}

func TestRefusedChangesNothing(t *testing.T) { // P21.1: ErrOver first, in the middle and last; what fits is added behind it
	for i := range 6 {
		w := watch(t, fmt.Sprint("number ", i))
		for j := range 6 {
			w.add(up(r(j/2), j%2, 0, high))
		}
		u := w.list[i]
		w.refuses(up(u.Row, u.Time.Epoch, u.Time.Round, high))
		w.refuses(up(u.Row, u.Time.Epoch, u.Time.Round, 1))
		w.add(up(u.Row, u.Time.Epoch, u.Time.Round, -5), up(u.Row, u.Time.Epoch, u.Time.Round, 4))
		w.refuses(up(u.Row, u.Time.Epoch, u.Time.Round, 2))
		w.add(up(u.Row, u.Time.Epoch, u.Time.Round, 1), up(u.Row, u.Time.Epoch, u.Time.Round, 0))
		w.all()
		w.add(up(u.Row, u.Time.Epoch, u.Time.Round, high))
		w.all()
	}
}

// kindsOfRows are rows of other lengths and kinds, in order: one the beginning of another, none, and some that row.Check does not take.
func kindsOfRows() []api.Row {
	return []api.Row{
		nil, r(odd(low)), r(odd(-1)), r(odd(-1), 0), r(low), r(-1), r(0), r(0, 0), r(0, 0, "a"), r(0, 1), r(0, ""), r(0, "a"), r(0, odd(5)), r(1), r(1, 0), r(high),
		r(""), r("", ""), r("\x00"), r("A"), r("a"), r("a", low), r("a", 1), r("a", "b"), r("a\x00"), r("aa"), r("b"), r("ä"), r("\xff"), r("\xff\xff"),
		r(strings.Repeat("\xff", api.MaxText+1)), r(odd(2)), r(odd(2), 4), r(odd(high)),
	}
}

// long is a row of more values than may be.
func long() api.Row { return slices.Repeat(r(3, "c"), api.MaxCols) }

// shuffled is a list in another order, each by a step that leads through all of it.
func shuffled[T any](l []T, step int) []T {
	var other []T
	for i := range l {
		other = append(other, l[i*step%len(l)])
	}
	return other
}

func TestRows(t *testing.T) { // P21.1: several rows at one time are told by row.Order, however they were added
	rows := kindsOfRows()
	for i := range rows[1:] {
		if row.Order(rows[i], rows[i+1]) != -1 {
			t.Fatalf("%v and %v stand in no order", rows[i], rows[i+1])
		}
	}
	for _, step := range []int{1, 3, 5, 7, 11, 13, 33} { // none has a factor in common with how many there are
		w := watch(t, fmt.Sprint("step ", step))
		var want []api.Up
		for i, x := range rows {
			want = append(want, up(x, 3, 4, i+1))
		}
		w.add(shuffled(want, step)...)
		if w.h.Len() != len(rows) {
			t.Fatalf("Len %d", w.h.Len())
		}
		w.tells(times(at(3, 5), at(4, 4)), want...)
	}
	w := watch(t, "many values")
	w.add(up(long(), 0, 0, 1), up(r(3, "c"), 0, 0, 2), up(long()[1:], 0, 0, 3), up(long(), 0, 0, 4), up(long()[2:], 0, 0, 5))
	w.tells(nil, up(r(3, "c"), 0, 0, 2), up(long()[2:], 0, 0, 5), up(long(), 0, 0, 5), up(long()[1:], 0, 0, 3))
}

func TestOneRowAtSeveralTimes(t *testing.T) { // P21.1: each is held by itself, and told by moment.Order
	for _, x := range kindsOfRows() {
		w := watch(t, told(x))
		w.add(up(x, 1, 0, 1), up(x, 0, 1, 2), up(x, 1, 1, 3), up(x, 0, 0, 4), up(x, 0, 2, 5), up(x, 2, 0, 6))
		w.add(up(x, 1, 1, -3), up(x, 0, 0, 10), up(x, 2, 0, -7))
		w.tells(times(at(0, 2), at(2, 0)), up(x, 0, 0, 14), up(x, 0, 1, 2), up(x, 1, 0, 1))
		w.tells(nil, up(x, 0, 2, 5), up(x, 2, 0, -1))
	}
}

func TestTimesGoAheadOfRows(t *testing.T) { // P21.1: by the time first, by the row only where times are the same
	w := watch(t, "times first")
	w.add(up(r(1), 2, 0, 1), up(r(2), 1, 9, 2), up(r(3), 1, 0, 3), up(r(4), 0, 9, 4), up(r(2), 2, 0, 5), up(r(9), 1, 0, 6), up(r(0), 1, 9, 7))
	w.tells(nil, up(r(4), 0, 9, 4), up(r(3), 1, 0, 3), up(r(9), 1, 0, 6), up(r(0), 1, 9, 7), up(r(2), 1, 9, 2), up(r(1), 2, 0, 1), up(r(2), 2, 0, 5))
}

func TestFieldsThatPlayNoPart(t *testing.T) { // P21.1, the rule of rows: rows that differ only there are the same row
	w := watch(t, "no part")
	number := func(beside string) api.Row { return r(api.Val{Kind: api.KindInt, Int: 5, Str: beside}) }
	text := func(beside int) api.Row { return r(api.Val{Kind: api.KindStr, Int: beside, Str: "5"}) }
	neither := func(x int, beside string) api.Row { return r(api.Val{Kind: 2, Int: x, Str: beside}) }
	w.add(up(number(""), 1, 1, 1), up(number("a"), 1, 1, 2), up(text(0), 1, 1, 1), up(text(9), 1, 1, 3), up(text(-9), 1, 1, 1), up(neither(1, "a"), 1, 1, 4), up(neither(2, "b"), 1, 1, 5))
	if w.h.Len() != 3 {
		t.Fatalf("Len %d", w.h.Len())
	}
	w.add(up(number("z"), 1, 1, -3), up(neither(3, ""), 1, 1, -9))
	if w.h.Len() != 1 {
		t.Fatalf("Len %d", w.h.Len())
	}
	w.tells(nil, up(r("5"), 1, 1, 5))
	w.add(up(number("b"), 0, 0, high))
	w.refuses(up(number("c"), 0, 0, 1))
	w.all()
}

package join_test

import (
	"fmt"
	"math"
	"math/big"
	"slices"
	"strings"
	"testing"

	"runnel/api"
	"runnel/join"
	"runnel/moment"
	"runnel/row"
	"runnel/spine"
)

const (
	low  = math.MinInt
	high = math.MaxInt
)

func n(x int) api.Val    { return api.Val{Kind: api.KindInt, Int: x} }
func s(x string) api.Val { return api.Val{Kind: api.KindStr, Str: x} }

// odd is a value whose kind is none.
func odd(kind int) api.Val { return api.Val{Kind: kind, Int: 7, Str: "odd"} }

// r is a row of numbers, texts and values.
func r(values ...any) api.Row {
	var l api.Row
	for _, v := range values {
		switch x := v.(type) {
		case int:
			l = append(l, n(x))
		case string:
			l = append(l, s(x))
		case api.Val:
			l = append(l, x)
		}
	}
	return l
}

func at(epoch, round int) api.Time { return api.Time{Epoch: epoch, Round: round} }

func times(l ...api.Time) []api.Time { return l }

func up(r api.Row, epoch, round, diff int) api.Up {
	return api.Up{Row: r, Time: at(epoch, round), Diff: diff}
}

func ups(l ...api.Up) []api.Up { return l }

func same(u, v api.Up) bool {
	return row.Same(u.Row, v.Row) && u.Time == v.Time && u.Diff == v.Diff
}

func isNothing(u api.Up) bool { return u.Row == nil && u.Time == at(0, 0) && u.Diff == 0 }

// copied is a list of changes in memory of its own.
func copied(l []api.Up) []api.Up {
	var own []api.Up
	for _, u := range l {
		u.Row = slices.Clone(u.Row)
		own = append(own, u)
	}
	return own
}

// told is x as a text that is not too long to be read.
func told(x any) string {
	text := strings.ToValidUTF8(fmt.Sprintf("%+v", x), "?")
	if len(text) > 500 {
		text = text[:500] + " .."
	}
	return text
}

// order is the one in which the changes stand that come together: by rows, then by times.
func order(u, v api.Up) int {
	if o := row.Order(u.Row, v.Row); o != 0 {
		return o
	}
	return moment.Order(u.Time, v.Time)
}

func isTime(t api.Time) bool {
	return t.Epoch >= 0 && t.Epoch <= api.MaxTime && t.Round >= 0 && t.Round <= api.MaxTime
}

// advanced: is one of f not above t in either way?
func advanced(f []api.Time, t api.Time) bool {
	return slices.ContainsFunc(f, func(u api.Time) bool { return u.Epoch <= t.Epoch && u.Round <= t.Round })
}

// least are the times to which no other one is LessEq: in order, those whose round is below that of each one ahead.
func least(l []api.Time) []api.Time {
	l = slices.SortedFunc(slices.Values(l), moment.Order)
	var told []api.Time
	for _, t := range l {
		if len(told) == 0 || t.Round < told[len(told)-1].Round {
			told = append(told, t)
		}
	}
	return told
}

// lower are the least times of changes.
func lower(l []api.Up) []api.Time {
	var all []api.Time
	for _, u := range l {
		all = append(all, u.Time)
	}
	return least(all)
}

// alike: are two values, by the field that plays a part?
func alike(a, b api.Val) bool {
	switch {
	case a.Kind != b.Kind:
		return false
	case a.Kind == api.KindInt:
		return a.Int == b.Int
	case a.Kind == api.KindStr:
		return a.Str == b.Str
	}
	return true
}

// together is what comes of changes of one side and of the other, each with each: those of one row and time added up, none of 0, by order. fits is false where a product or a sum is none.
func together(key int, first, second []api.Up) (made []api.Up, fits bool) {
	type product struct {
		api.Up
		diff *big.Int
	}
	var all []product
	for _, u := range first {
		for _, v := range second {
			if slices.EqualFunc(u.Row[:key], v.Row[:key], alike) {
				both := api.Up{Row: slices.Concat(u.Row, v.Row[key:]), Time: at(max(u.Time.Epoch, v.Time.Epoch), max(u.Time.Round, v.Time.Round))}
				all = append(all, product{both, new(big.Int).Mul(big.NewInt(int64(u.Diff)), big.NewInt(int64(v.Diff)))})
			}
		}
	}
	slices.SortStableFunc(all, func(x, y product) int { return order(x.Up, y.Up) })
	sum := new(big.Int)
	for i, x := range all {
		if sum.Add(sum, x.diff); !x.diff.IsInt64() || !sum.IsInt64() {
			return nil, false
		}
		if i < len(all)-1 && order(x.Up, all[i+1].Up) == 0 {
			continue
		}
		if x.Diff = int(sum.Int64()); x.Diff != 0 {
			made = append(made, x.Up)
		}
		sum.SetInt64(0)
	}
	return made, true
}

// watched is a join, and what the chapter says of it: two plain lists of all that was accepted, of which nothing is advanced or merged, and what waits. Beside them stand two spines that are handed what a side's spine must be.
type watched struct {
	t      *testing.T
	name   string
	key    int
	j      *join.Join
	lists  [2][]api.Up
	fronts [2][]api.Time
	spines [2]*spine.Spine
	waits  []api.Up
	next   []api.Up           // all that was told
	calls  []func(*join.Join) // all that was done
	over   bool               // a number was too great: nothing is promised any more
}

func watch(t *testing.T, name string, key int) *watched {
	t.Helper()
	j, e := join.New(key)
	if e != api.OK || j == nil {
		t.Fatalf("%s: New(%d): join %v, error %d", name, key, j != nil, int(e))
	}
	w := &watched{t: t, name: name, key: key, j: j}
	for side := range 2 {
		w.spines[side], _ = spine.New(key)
		w.fronts[side] = times(at(0, 0))
	}
	w.hold("new")
	return w
}

// hold asks all that may be asked and changes nothing.
func (w *watched) hold(step string) {
	w.t.Helper()
	name := w.name + ", " + step
	if got := w.j.Len(); got != len(w.waits) {
		w.t.Fatalf("%s: Len is %d, want %d", name, got, len(w.waits))
	}
	if got, want := w.j.Lower(), lower(w.waits); !slices.Equal(got, want) {
		w.t.Fatalf("%s: Lower is %s, want %s", name, told(got), told(want))
	}
	if got, want := w.j.Still(), w.spines[0].Still() && w.spines[1].Still(); got != want {
		w.t.Fatalf("%s: Still is %v, want %v", name, got, want)
	}
	for side := range 2 {
		w.holdSide(name, side)
	}
}

// holdSide asks whether a side is the spine that it must be, and stands at the other side's frontier.
func (w *watched) holdSide(name string, side int) {
	w.t.Helper()
	name = fmt.Sprint(name, ": side ", side)
	got, want := w.j.Side(side), w.spines[side]
	if got == nil {
		w.t.Fatalf("%s is nil", name)
	}
	if !slices.Equal(got.Since(), w.fronts[1-side]) {
		w.t.Fatalf("%s: Since is %v, want %v", name, got.Since(), w.fronts[1-side])
	}
	if got.Total() != len(w.lists[side]) || got.Still() != want.Still() {
		w.t.Fatalf("%s: Total %d, Still %v; want %d, %v", name, got.Total(), got.Still(), len(w.lists[side]), want.Still())
	}
	if !slices.EqualFunc(got.Ups(), want.Ups(), same) {
		w.t.Fatalf("%s: Ups are %s, want %s", name, told(got.Ups()), told(want.Ups()))
	}
	gotBatches, wantBatches := got.Batches(), want.Batches()
	if len(gotBatches) != len(wantBatches) {
		w.t.Fatalf("%s: %d batches, want %d", name, len(gotBatches), len(wantBatches))
	}
	for i, b := range gotBatches {
		if b.Key() != w.key || b.Weight() != wantBatches[i].Weight() || !slices.Equal(b.Since(), wantBatches[i].Since()) {
			w.t.Fatalf("%s: batch %d: Key %d, Weight %d, Since %v", name, i, b.Key(), b.Weight(), b.Since())
		}
	}
}

// holdWaiting asks what waits, in its order: of another join, which is brought to where this one is by the same calls.
func (w *watched) holdWaiting(step string) {
	w.t.Helper()
	j, _ := join.New(w.key)
	for _, call := range w.calls {
		call(j)
	}
	for i, want := range w.waits {
		if got, ok := j.Next(); !ok || !same(got, want) {
			w.t.Fatalf("%s, %s: number %d that waits is %s, %v; want %s", w.name, step, i, told(got), ok, told(want))
		}
	}
	if got, ok := j.Next(); ok || !isNothing(got) {
		w.t.Fatalf("%s, %s: behind all that waits: %s, %v", w.name, step, told(got), ok)
	}
}

// mayAccept is the error that the chapter names first, ahead of all numbers.
func (w *watched) mayAccept(side int, u api.Up) api.Errno {
	switch {
	case side != 0 && side != 1:
		return api.ErrArg
	case len(u.Row) < w.key:
		return api.ErrRange
	case !isTime(u.Time) || !advanced(w.fronts[side], u.Time):
		return api.ErrTime
	}
	return api.OK
}

func (w *watched) mayAdvance(side int, f []api.Time) api.Errno {
	switch {
	case side != 0 && side != 1:
		return api.ErrArg
	case len(f) > api.MaxFront:
		return api.ErrMany
	case slices.ContainsFunc(f, func(t api.Time) bool { return !isTime(t) }):
		return api.ErrTime
	case !slices.Equal(least(f), f):
		return api.ErrForm
	case slices.ContainsFunc(f, func(t api.Time) bool { return !advanced(w.fronts[side], t) }):
		return api.ErrTime
	}
	return api.OK
}

// acceptOnly, advanceOnly, nextOnly and workOnly ask no more than the call itself does.
func (w *watched) acceptOnly(side int, u api.Up) api.Errno {
	w.t.Helper()
	own := copied(ups(u))[0]
	want := w.mayAccept(side, u)
	var brings []api.Up
	if want == api.OK {
		both := [2][]api.Up{w.lists[0], w.lists[1]}
		both[side] = ups(own)
		var fits bool
		if brings, fits = together(w.key, both[0], both[1]); !fits {
			want, w.over = api.ErrOver, true
		}
	}
	if e := w.j.Accept(side, u); e != want {
		w.t.Fatalf("%s: Accept(%d, %s): error %d, want %d", w.name, side, told(u), int(e), int(want))
	}
	w.calls = append(w.calls, func(j *join.Join) { j.Accept(side, own) })
	if want == api.OK {
		w.waits = append(w.waits, brings...)
		w.lists[side] = append(w.lists[side], own)
		w.spines[side].Insert(ups(own))
	}
	return want
}

func (w *watched) advanceOnly(side int, f []api.Time) api.Errno {
	w.t.Helper()
	own := slices.Clone(f)
	want := w.mayAdvance(side, f)
	if e := w.j.Advance(side, f); e != want {
		w.t.Fatalf("%s: Advance(%d, %s): error %d, want %d", w.name, side, told(f), int(e), int(want))
	}
	w.calls = append(w.calls, func(j *join.Join) { j.Advance(side, own) })
	if want == api.OK {
		w.fronts[side] = own
		w.spines[1-side].Advance(own)
	}
	return want
}

func (w *watched) nextOnly() bool {
	w.t.Helper()
	got, ok := w.j.Next()
	w.calls = append(w.calls, func(j *join.Join) { j.Next() })
	if len(w.waits) == 0 {
		if ok || !isNothing(got) {
			w.t.Fatalf("%s: Next of none: %s, %v", w.name, told(got), ok)
		}
		return false
	}
	if want := w.waits[0]; !ok || !same(got, want) {
		w.t.Fatalf("%s: Next: %s, %v; want %s", w.name, told(got), ok, told(want))
	}
	w.next = append(w.next, copied(ups(got))...)
	w.waits = w.waits[1:]
	return true
}

func (w *watched) workOnly(fuel int) (left int) {
	w.t.Helper()
	want, e := w.spines[0].Work(fuel)
	if e == api.OK {
		want, e = w.spines[1].Work(want)
	}
	got, gotErr := w.j.Work(fuel)
	if got != want || gotErr != e {
		w.t.Fatalf("%s: Work(%d): %d, error %d; want %d, %d", w.name, fuel, got, int(gotErr), want, int(e))
	}
	w.calls = append(w.calls, func(j *join.Join) { j.Work(fuel) })
	return got
}

func (w *watched) accept(side int, l ...api.Up) {
	w.t.Helper()
	for _, u := range l {
		w.refuses(side, u, api.OK)
	}
}

// refuses is an Accept with an error: nothing has changed.
func (w *watched) refuses(side int, u api.Up, want api.Errno) {
	w.t.Helper()
	step := fmt.Sprintf("Accept(%d, %s)", side, told(u))
	if e := w.acceptOnly(side, u); e != want {
		w.t.Fatalf("%s: %s: error %d, want %d", w.name, step, int(e), int(want))
	}
	w.hold(step)
}

func (w *watched) advance(side int, f ...api.Time) {
	w.t.Helper()
	w.stays(side, f, api.OK)
}

// stays is an Advance with an error: nothing has changed.
func (w *watched) stays(side int, f []api.Time, want api.Errno) {
	w.t.Helper()
	step := fmt.Sprintf("Advance(%d, %s)", side, told(f))
	if e := w.advanceOnly(side, f); e != want {
		w.t.Fatalf("%s: %s: error %d, want %d", w.name, step, int(e), int(want))
	}
	w.hold(step)
}

func (w *watched) work(fuel int) (left int) {
	w.t.Helper()
	left = w.workOnly(fuel)
	w.hold(fmt.Sprintf("Work(%d)", fuel))
	return left
}

// tells is a Next that tells these, one after the other, and then none.
func (w *watched) tells(want ...api.Up) {
	w.t.Helper()
	w.holdWaiting("ahead of Next")
	for i, u := range want {
		if !w.nextOnly() || !same(w.next[len(w.next)-1], u) {
			w.t.Fatalf("%s: Next is not %s", w.name, told(u))
		}
		if i < 20 || i%50 == 0 { // of very many, not behind each
			w.hold("Next")
		}
	}
	for range 2 {
		if w.nextOnly() {
			w.t.Fatalf("%s: Next tells one more: %s", w.name, told(w.next[len(w.next)-1]))
		}
		w.hold("Next of none")
	}
}

// all takes what waits, one after the other.
func (w *watched) all() {
	w.t.Helper()
	w.tells(w.waits...)
}

func TestThePage(t *testing.T) { // P22.2, P22.3: the page's example
	j, e := join.New(1)
	if e != api.OK {
		t.Fatalf("error %d", int(e))
	}
	if e := j.Accept(0, up(r(1, 5), 1, 0, 2)); e != api.OK || j.Len() != 0 {
		t.Fatalf("error %d, Len %d", int(e), j.Len())
	}
	if e := j.Accept(1, up(r(1, 6), 0, 2, 3)); e != api.OK || j.Len() != 1 {
		t.Fatalf("error %d, Len %d", int(e), j.Len())
	}
	if l := j.Lower(); !slices.Equal(l, times(at(1, 2))) {
		t.Fatalf("Lower %v", l)
	}
	if u, ok := j.Next(); !ok || !same(u, up(r(1, 5, 6), 1, 2, 6)) {
		t.Fatalf("Next: %v, %v", u, ok)
	}
	if u, ok := j.Next(); ok || !isNothing(u) || j.Len() != 0 || len(j.Lower()) != 0 {
		t.Fatalf("Next: %v, %v, Len %d, Lower %v", u, ok, j.Len(), j.Lower())
	}
}

func TestByHand(t *testing.T) { // P22.1 to P22.3: each call, told by hand
	j, _ := join.New(1)
	fine := func(e api.Errno) {
		t.Helper()
		if e != api.OK {
			t.Fatalf("error %d", int(e))
		}
	}
	next := func(want api.Up) {
		t.Helper()
		if u, ok := j.Next(); !ok || !same(u, want) {
			t.Fatalf("Next: %v, %v, want %v", u, ok, want)
		}
	}
	ask := func(length int, still bool, lower ...api.Time) {
		t.Helper()
		if j.Len() != length || j.Still() != still || !slices.Equal(j.Lower(), lower) {
			t.Fatalf("Len %d, Still %v, Lower %v", j.Len(), j.Still(), j.Lower())
		}
	}
	ask(0, true)
	fine(j.Accept(1, up(r(1, "y"), 0, 3, 2)))
	fine(j.Accept(1, up(r(1, "x"), 2, 0, 1)))
	fine(j.Accept(1, up(r(2, "z"), 0, 0, 1)))
	ask(0, false)
	fine(j.Accept(0, up(r(1, 5), 1, 1, -3)))
	ask(2, false, at(1, 3), at(2, 1))
	fine(j.Accept(0, up(r(2), 0, 0, 4)))
	ask(3, false, at(0, 0))
	next(up(r(1, 5, "x"), 2, 1, -3))
	ask(2, false, at(0, 0))
	next(up(r(1, 5, "y"), 1, 3, -6))
	next(up(r(2, "z"), 0, 0, 4))
	ask(0, false)
	fine(j.Advance(0, times(at(1, 2), at(3, 0))))
	if since := j.Side(1).Since(); !slices.Equal(since, times(at(1, 2), at(3, 0))) {
		t.Fatalf("Since %v", since)
	}
	if since := j.Side(0).Since(); !slices.Equal(since, times(at(0, 0))) {
		t.Fatalf("Since %v", since)
	}
	if left, e := j.Work(100); e != api.OK || left <= 0 || left >= 100 {
		t.Fatalf("%d, error %d", left, int(e))
	}
	ask(0, true)
	// What stands for (0, 3) is (1, 3), for (2, 0) it is itself, for (0, 0) it is (1, 0).
	if l := j.Side(1).Ups(); !slices.EqualFunc(l, ups(up(r(1, "x"), 2, 0, 1), up(r(1, "y"), 1, 3, 2), up(r(2, "z"), 1, 0, 1)), same) {
		t.Fatalf("Ups %v", l)
	}
	if e := j.Accept(0, up(r(1, 9), 2, 1, 1)); e != api.ErrTime {
		t.Fatalf("error %d", int(e))
	}
	fine(j.Accept(1, up(r(7, "new"), 0, 0, 1)))
	fine(j.Accept(0, up(r(1, 9), 3, 0, 1)))
	ask(2, false, at(3, 0))
	next(up(r(1, 9, "x"), 3, 0, 1))
	next(up(r(1, 9, "y"), 3, 3, 2))
}

func TestNew(t *testing.T) { // P22.1: spine.New's error, and no join; else two empty sides
	for _, key := range []int{low, low + 1, -1 << 32, -2, -1, api.MaxCols + 1, api.MaxCols + 2, 1 << 32, high - 1, high} {
		_, want := spine.New(key)
		if j, e := join.New(key); j != nil || e != want || e != api.ErrArg {
			t.Errorf("New(%d): join %v, error %d, want %d", key, j != nil, int(e), int(want))
		}
	}
	for key := range api.MaxCols + 1 {
		w := watch(t, fmt.Sprint("key ", key), key)
		if w.j.Side(0) == w.j.Side(1) {
			t.Errorf("New(%d): both sides are one spine", key)
		}
		if left, e := w.j.Work(5); left != 5 || e != api.OK || !w.j.Still() {
			t.Errorf("New(%d): Work: %d, error %d, Still %v", key, left, int(e), w.j.Still())
		}
		w.tells()
	}
}

func TestNilJoin(t *testing.T) { // P22.1: ErrNil, none, zeros, nothing
	var j *join.Join
	for _, side := range []int{0, 1, -1, 2, low, high} {
		for _, u := range ups(api.Up{}, up(r(1), 0, 0, 1), up(nil, -1, -1, 0), up(r("a"), high, low, high)) {
			if e := j.Accept(side, u); e != api.ErrNil {
				t.Errorf("Accept(%d, %v): error %d", side, u, int(e))
			}
		}
		for _, f := range [][]api.Time{nil, {}, {at(0, 0)}, {at(5, 5), at(1, 1)}, {at(-1, 0)}} {
			if e := j.Advance(side, f); e != api.ErrNil {
				t.Errorf("Advance(%d, %v): error %d", side, f, int(e))
			}
		}
		if s := j.Side(side); s != nil {
			t.Errorf("Side(%d) is not nil", side)
		}
	}
	for _, fuel := range []int{low, -1, 0, 1, high} {
		if left, e := j.Work(fuel); left != 0 || e != api.ErrNil {
			t.Errorf("Work(%d): %d, error %d", fuel, left, int(e))
		}
	}
	if u, ok := j.Next(); ok || !isNothing(u) {
		t.Errorf("Next: %v, %v", u, ok)
	}
	if j.Len() != 0 || len(j.Lower()) != 0 || j.Still() {
		t.Errorf("Len %d, Lower %v, Still %v", j.Len(), j.Lower(), j.Still())
	}
}

func TestZeroJoinEnds(t *testing.T) { // Ends: what it answers is open, but that it ends
	var j join.Join
	for _, side := range []int{0, 1, -1, 2} {
		j.Accept(side, up(r(1), 0, 0, 1))
		j.Advance(side, times(at(0, 0)))
		j.Advance(side, nil)
		j.Side(side)
	}
	j.Next()
	j.Len()
	j.Lower()
	j.Work(5)
	j.Still()
}

func TestRowOfSideZeroStandsFirst(t *testing.T) { // P22.2: whichever side comes first
	for _, first := range []int{0, 1} {
		w := watch(t, fmt.Sprint("first is side ", first), 1)
		both := [2][]api.Up{ups(up(r("k", "left", 1), 0, 0, 2)), ups(up(r("k", "right", "end"), 0, 0, 3))}
		w.accept(first, both[first]...)
		w.tells()
		w.accept(1-first, both[1-first]...)
		w.tells(up(r("k", "left", 1, "right", "end"), 0, 0, 6))
		w.accept(first, both[first]...)
		w.tells(up(r("k", "left", 1, "right", "end"), 0, 0, 6))
		w.accept(1-first, both[1-first]...)
		w.tells(up(r("k", "left", 1, "right", "end"), 0, 0, 12))
	}
}

func TestKeys(t *testing.T) { // P22.2: of no value, of one, of several; rows of just the key's values, of more, of other lengths and kinds
	for _, k := range []struct {
		key           int
		first, second api.Row
		want          api.Row // nil: they do not meet
	}{
		{0, r(1), r(1), r(1, 1)},
		{0, r("a", 2), r(3), r("a", 2, 3)},
		{0, r(3), r("a", 2), r(3, "a", 2)},
		{1, r(1), r(1), r(1)},
		{1, r(1, 2), r(1), r(1, 2)},
		{1, r(1), r(1, 2), r(1, 2)},
		{1, r(1, 2), r(1, 2), r(1, 2, 2)},
		{1, r(1, 2), r(1, "b", "c"), r(1, 2, "b", "c")},
		{1, r(1, 2), r(2, 2), nil},
		{1, r(1), r("1"), nil},
		{1, r("a"), r("a"), r("a")},
		{1, r("a", 1), r("ab", 1), nil},
		{1, r(""), r("", ""), r("", "")},
		{1, r(0), r(""), nil},
		{1, r(-1, 5), r(-1, 6), r(-1, 5, 6)},
		{1, r(low, 5), r(low, 6), r(low, 5, 6)},
		{1, r(high, 5), r(low, 6), nil},
		{1, r("\xff\x00", 5), r("\xff\x00", 6), r("\xff\x00", 5, 6)},
		{1, r("\xff\x00", 5), r("\xff\x01", 6), nil},
		{1, r(1, 2, 3), r(1, 2, 4), r(1, 2, 3, 2, 4)},
		{2, r(1, 2, 3), r(1, 2, 4), r(1, 2, 3, 4)},
		{2, r(1, 2, 3), r(1, 3, 3), nil},
		{2, r(2, 1, 3), r(1, 2, 3), nil},
		{2, r(1, 2), r(1, 2), r(1, 2)},
		{2, r(1, "b"), r(1, "b", 3, 4), r(1, "b", 3, 4)},
		{3, r(1, "b", 3, "x"), r(1, "b", 3), r(1, "b", 3, "x")},
		{3, r(1, "b", 3), r(1, "b", 4), nil},
		{1, r(odd(7), 1), r(odd(7), 2), r(odd(7), 1, 2)}, // values of a kind that is none are alike
		{1, r(odd(7), 1), r(odd(-7), 2), nil},
		{1, r(api.Val{Kind: api.KindInt, Int: 4, Str: "one"}, 1), r(api.Val{Kind: api.KindInt, Int: 4, Str: "another"}, 2), r(4, 1, 2)}, // the other field plays no part
		{1, r(api.Val{Kind: api.KindStr, Int: 4, Str: "a"}, 1), r(api.Val{Kind: api.KindStr, Int: 5, Str: "a"}, 2), r("a", 1, 2)},
	} {
		w := watch(t, fmt.Sprint("key ", k.key, " of ", told(k.first), " and ", told(k.second)), k.key)
		w.accept(0, up(k.first, 1, 0, 2))
		w.accept(1, up(k.second, 0, 1, 5))
		if k.want == nil {
			w.tells()
			continue
		}
		w.tells(up(k.want, 1, 1, 10))
	}
}

func TestKeyOfNoValue(t *testing.T) { // P22.2: every row has it, also that of no value
	w := watch(t, "key 0", 0)
	w.accept(0, up(nil, 0, 0, 1), up(r(), 1, 0, 1), up(r(1), 0, 0, 2))
	w.accept(1, up(nil, 0, 1, 3))
	w.tells(up(nil, 0, 1, 3), up(nil, 1, 1, 3), up(r(1), 0, 1, 6))
	w.accept(1, up(r("a", "b"), 0, 0, 1))
	w.tells(up(r(1, "a", "b"), 0, 0, 2), up(r("a", "b"), 0, 0, 1), up(r("a", "b"), 1, 0, 1))
	w.accept(0, up(r(9), 0, 0, -1))
	w.tells(up(r(9), 0, 1, -3), up(r(9, "a", "b"), 0, 0, -1))
}

// wide is a row of so many numbers.
func wide(length, from int) api.Row {
	var l api.Row
	for i := range length {
		l = append(l, n(from+i))
	}
	return l
}

func TestKeyOfMaxCols(t *testing.T) { // P22.2: a whole row of both sides; nothing else is asked of how long a row is
	const key = api.MaxCols
	w := watch(t, "key MaxCols", key)
	w.accept(0, up(wide(key, 1), 0, 0, 2), up(wide(key, 2), 0, 0, 3))
	w.accept(1, up(wide(key, 1), 2, 0, 5))
	w.tells(up(wide(key, 1), 2, 0, 10))
	last := wide(key, 1)
	last[key-1] = n(0)
	w.accept(1, up(last, 0, 0, 1))
	w.tells()
	w.accept(1, up(wide(key+3, 2), 0, 0, 1))
	w.tells(up(wide(key+3, 2), 0, 0, 3))
	w.accept(0, up(wide(key+2, 2), 0, 0, 1))
	w.tells(up(append(wide(key+2, 2), wide(3, 2+key)...), 0, 0, 1))
	w.refuses(0, up(wide(key-1, 1), 0, 0, 1), api.ErrRange)
}

func TestKeyThatIsAWholeRow(t *testing.T) { // P22.2: of one side, of the other, of both: what is behind it is none
	for _, whole := range [][2]bool{{true, false}, {false, true}, {true, true}} {
		w := watch(t, fmt.Sprint(whole), 2)
		var rows [2]api.Row
		for side := range 2 {
			rows[side] = r("k", 1)
			if !whole[side] {
				rows[side] = r("k", 1, "rest", side)
			}
		}
		w.accept(0, up(rows[0], 0, 0, 1))
		w.accept(1, up(rows[1], 0, 0, 1), up(rows[1], 0, 1, 1))
		want := slices.Concat(rows[0], rows[1][2:])
		w.tells(up(want, 0, 0, 1), up(want, 0, 1, 1))
	}
}

func TestSeveralTimes(t *testing.T) { // P22.2: changes with one key at several times on both sides, with keys that the other side does not have
	w := watch(t, "several", 1)
	w.accept(0, up(r(1, "a"), 0, 0, 1), up(r(1, "a"), 2, 0, 1), up(r(1, "b"), 0, 2, 1), up(r(5, "c"), 0, 0, 1))
	w.accept(1, up(r(2, "x"), 0, 0, 1), up(r(0, "x"), 0, 0, 1))
	w.tells()
	w.accept(1, up(r(1, "x"), 1, 1, 2))
	w.tells(up(r(1, "a", "x"), 1, 1, 2), up(r(1, "a", "x"), 2, 1, 2), up(r(1, "b", "x"), 1, 2, 2))
	w.accept(1, up(r(1, "y"), 0, 3, 1))
	w.tells(up(r(1, "a", "y"), 0, 3, 1), up(r(1, "a", "y"), 2, 3, 1), up(r(1, "b", "y"), 0, 3, 1))
	w.accept(0, up(r(1, "a"), 3, 0, -2))
	w.tells(up(r(1, "a", "x"), 3, 1, -4), up(r(1, "a", "y"), 3, 3, -2))
	w.accept(0, up(r(2), 4, 4, 1))
	w.tells(up(r(2, "x"), 4, 4, 1))
	w.accept(1, up(r(5, "z"), 0, 1, 7))
	w.tells(up(r(5, "c", "z"), 0, 1, 7))
}

func TestTimesOfWhichNoneIsLessEq(t *testing.T) { // P22.2: they meet at the Join of both
	for _, k := range []struct{ first, second, want api.Time }{
		{at(0, 0), at(0, 0), at(0, 0)},
		{at(1, 0), at(0, 1), at(1, 1)},
		{at(3, 2), at(2, 3), at(3, 3)},
		{at(3, 2), at(3, 1), at(3, 2)},
		{at(1, 2), at(5, 2), at(5, 2)},
		{at(0, api.MaxTime), at(api.MaxTime, 0), at(api.MaxTime, api.MaxTime)},
		{at(api.MaxTime, api.MaxTime), at(0, 0), at(api.MaxTime, api.MaxTime)},
	} {
		for _, first := range []int{0, 1} {
			w := watch(t, fmt.Sprint(k, first), 1)
			w.accept(first, up(r(1), k.first.Epoch, k.first.Round, 1))
			w.accept(1-first, up(r(1), k.second.Epoch, k.second.Round, 1))
			w.tells(up(r(1), k.want.Epoch, k.want.Round, 1))
		}
	}
}

func TestWhatComesToNothing(t *testing.T) { // P22.2: among those that one Accept brings it does not wait; among those of two, both wait
	w := watch(t, "nothing", 1)
	w.accept(0, up(r(1, "a"), 0, 0, 2), up(r(1, "a"), 0, 1, -2), up(r(1, "b"), 0, 0, 1))
	w.accept(1, up(r(1, "x"), 0, 1, 3))
	w.tells(up(r(1, "b", "x"), 0, 1, 3)) // both of a come to (0, 1)
	w.accept(1, up(r(1, "x"), 0, 0, 3))
	w.tells(up(r(1, "a", "x"), 0, 0, 6), up(r(1, "a", "x"), 0, 1, -6), up(r(1, "b", "x"), 0, 0, 3))
	w.accept(1, up(r(1, "x"), 0, 1, 1), up(r(1, "x"), 0, 1, -1))
	if w.j.Len() != 2 {
		t.Fatalf("Len %d", w.j.Len())
	}
	w.tells(up(r(1, "b", "x"), 0, 1, 1), up(r(1, "b", "x"), 0, 1, -1))
	w.accept(0, up(r(1, "b"), 0, 1, -1)) // of three changes at (0, 1) and (0, 0): 3 + 3 + 1 - 1
	w.tells(up(r(1, "b", "x"), 0, 1, -6))
	w = watch(t, "all of it", 0)
	w.accept(1, up(r(1), 0, 0, 5), up(r(1), 1, 0, -3), up(r(1), 0, 1, -2))
	w.accept(0, up(r(2), 1, 1, 7))
	w.tells()
}

func TestDiffs(t *testing.T) { // P22.2: of 0, and below 0
	for _, k := range []struct{ first, second, want int }{
		{1, 1, 1}, {2, 3, 6}, {-2, 3, -6}, {2, -3, -6}, {-2, -3, 6}, {0, 3, 0}, {3, 0, 0}, {0, 0, 0}, {0, low, 0}, {high, 0, 0}, {1, low, low}, {low, 1, low}, {-1, high, -high}, {1 << 31, 1 << 31, 1 << 62}, {-1 << 31, 1 << 32, low},
	} {
		for _, first := range []int{0, 1} {
			w := watch(t, fmt.Sprint(k, " first is side ", first), 1)
			w.accept(first, up(r(1, "same"), 0, 0, k.first))
			w.accept(1-first, up(r(1, "same"), 0, 0, k.second))
			if k.want == 0 {
				w.tells()
			} else {
				w.tells(up(r(1, "same", "same"), 0, 0, k.want))
			}
			if total := w.j.Side(first).Total(); total != 1 { // a change of 0 is one of its side, too
				t.Errorf("%v: Total %d", k, total)
			}
		}
	}
}

func TestOrder(t *testing.T) { // P22.2: several that one Accept brings, by rows, then by times, behind what waits already
	w := watch(t, "order", 1)
	w.accept(1, up(r(1, "c"), 0, 0, 1), up(r(1, "a"), 5, 0, 2), up(r(1, "a"), 0, 9, 3), up(r(1), 7, 7, 4), up(r(1, 8), 1, 0, 5), up(r(1, "a", 0), 0, 0, 6), up(r(1, 7), 2, 0, 7), up(r(0, "z"), 0, 0, 8))
	w.accept(0, up(r(1, "x"), 1, 1, 1))
	first := ups(up(r(1, "x"), 7, 7, 4), up(r(1, "x", 7), 2, 1, 7), up(r(1, "x", 8), 1, 1, 5), up(r(1, "x", "a"), 1, 9, 3), up(r(1, "x", "a"), 5, 1, 2), up(r(1, "x", "a", 0), 1, 1, 6), up(r(1, "x", "c"), 1, 1, 1))
	w.accept(0, up(r(0, "first of all"), 0, 0, 1), up(r(1), 0, 0, 1))
	w.holdWaiting("three")
	second := ups(up(r(0, "first of all", "z"), 0, 0, 8))
	third := ups(up(r(1), 7, 7, 4), up(r(1, 7), 2, 0, 7), up(r(1, 8), 1, 0, 5), up(r(1, "a"), 0, 9, 3), up(r(1, "a"), 5, 0, 2), up(r(1, "a", 0), 0, 0, 6), up(r(1, "c"), 0, 0, 1))
	w.tells(slices.Concat(first, second, third)...)
}

func TestRowsOfOneMeeting(t *testing.T) { // P22.2: several pairs that are one row: added up where their times are one
	w := watch(t, "one row", 1)
	w.accept(0, up(r(1, "a"), 0, 0, 1), up(r(1, "a", "b"), 0, 0, 10), up(r(1), 0, 0, 100))
	w.accept(1, up(r(1, "b", "c"), 0, 0, 1)) // (1 a) (b c) and (1 a b) (b c) are not one row
	w.tells(up(r(1, "a", "b", "b", "c"), 0, 0, 10), up(r(1, "a", "b", "c"), 0, 0, 1), up(r(1, "b", "c"), 0, 0, 100))
	w.accept(1, up(r(1), 1, 0, 1))
	w.tells(up(r(1), 1, 0, 100), up(r(1, "a"), 1, 0, 1), up(r(1, "a", "b"), 1, 0, 10))
	w = watch(t, "rows of several lengths", 1)
	w.accept(1, up(r(1, "c"), 0, 0, 1), up(r(1, "b", "c"), 0, 0, 1))
	w.accept(0, up(r(1, "a"), 0, 1, 2))
	w.tells(up(r(1, "a", "b", "c"), 0, 1, 2), up(r(1, "a", "c"), 0, 1, 2))
	w.accept(0, up(r(1, "a", "b"), 0, 1, -2))
	w.tells(up(r(1, "a", "b", "b", "c"), 0, 1, -2), up(r(1, "a", "b", "c"), 0, 1, -2))
}

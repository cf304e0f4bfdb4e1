package queue_test

import (
	"fmt"
	"math"
	"slices"
	"strings"
	"testing"

	"runnel/api"
	"runnel/front"
	"runnel/moment"
	"runnel/queue"
	"runnel/row"
)

const (
	low  = math.MinInt
	high = math.MaxInt
)

func n(x int) api.Val    { return api.Val{Kind: api.KindInt, Int: x} }
func s(x string) api.Val { return api.Val{Kind: api.KindStr, Str: x} }

// r is a row of numbers and texts.
func r(values ...any) api.Row {
	var l api.Row
	for _, v := range values {
		switch x := v.(type) {
		case int:
			l = append(l, n(x))
		case string:
			l = append(l, s(x))
		}
	}
	return l
}

func at(epoch, round int) api.Time { return api.Time{Epoch: epoch, Round: round} }

func up(r api.Row, epoch, round, diff int) api.Up {
	return api.Up{Row: r, Time: at(epoch, round), Diff: diff}
}

// change is one that is told apart from all others by its number, in each of its parts.
func change(i int) api.Up { return up(r(i, fmt.Sprint("row ", i)), i, -i, i) }

// changes are those from one number up to below another.
func changes(from, to int) []api.Up {
	var l []api.Up
	for i := from; i < to; i++ {
		l = append(l, change(i))
	}
	return l
}

// plain are so many changes, told apart by their Diffs alone, and cheap to hold against others.
func plain(from, to int) []api.Up {
	var l []api.Up
	for i := from; i < to; i++ {
		l = append(l, up(nil, i&7, 7-i&7, i))
	}
	return l
}

func same(u, v api.Up) bool {
	return row.Same(u.Row, v.Row) && u.Time == v.Time && u.Diff == v.Diff
}

func isNothing(u api.Up) bool { return u.Row == nil && u.Time == at(0, 0) && u.Diff == 0 }

// copied is a list of changes in memory of its own.
func copied(l []api.Up) []api.Up {
	var own []api.Up
	for _, u := range l {
		u.Row = slices.Clone(u.Row)
		own = append(own, u)
	}
	return own
}

// told is x as a text that is not too long to be read.
func told(x any) string {
	text := strings.ToValidUTF8(fmt.Sprintf("%+v", x), "?")
	if len(text) > 500 {
		text = text[:500] + " .."
	}
	return text
}

// least are the times to which no other one is LessEq, told by each two.
func least(l []api.Time) []api.Time {
	l = slices.Clone(l)
	slices.SortFunc(l, moment.Order)
	l = slices.Compact(l)
	var told []api.Time
	for _, t := range l {
		under := func(u api.Time) bool { return u != t && u.Epoch <= t.Epoch && u.Round <= t.Round }
		if !slices.ContainsFunc(l, under) {
			told = append(told, t)
		}
	}
	return told
}

// watched is a queue, and what the chapter says of it: a plain list of all that was ever pushed, of which the first ones are gone.
type watched struct {
	t    *testing.T
	name string
	q    *queue.Queue
	room int
	list []api.Up
	gone int
	most int // so many waited at a time
}

func watch(t *testing.T, name string, room int) *watched {
	t.Helper()
	q, e := queue.New(room)
	if e != api.OK || q == nil {
		t.Fatalf("%s: New(%d): queue %v, error %d", name, room, q != nil, int(e))
	}
	w := &watched{t: t, name: name, q: q, room: room}
	w.hold("new")
	return w
}

func (w *watched) waits() []api.Up { return w.list[w.gone:] }

// hold asks all that may be asked, at each place that there is, or at some of very many.
func (w *watched) hold(step string) {
	w.t.Helper()
	w.holdNumbers(step)
	w.holdLower(step)
	stride := max(1, len(w.waits())/100)
	for i := 0; i < len(w.waits()); i += stride {
		w.holdPeek(step, i)
	}
	for i := max(0, len(w.waits())-3); i < len(w.waits()); i++ {
		w.holdPeek(step, i)
	}
	for _, i := range []int{low, low + 1, -api.MaxQueue, -2, -1, len(w.waits()), len(w.waits()) + 1, api.MaxQueue, high - 1, high} {
		w.holdPeek(step, i)
	}
}

func (w *watched) holdNumbers(step string) {
	w.t.Helper()
	want := len(w.waits())
	if w.q.Len() != want || w.q.Open() != (want < w.room) {
		w.t.Fatalf("%s, %s: Len %d, Open %v; want %d of room %d", w.name, step, w.q.Len(), w.q.Open(), want, w.room)
	}
	if in, out := w.q.Passed(); in != len(w.list) || out != w.gone {
		w.t.Fatalf("%s, %s: Passed %d, %d; want %d, %d", w.name, step, in, out, len(w.list), w.gone)
	}
}

func (w *watched) holdLower(step string) {
	w.t.Helper()
	var times []api.Time
	for _, u := range w.waits() {
		times = append(times, u.Time)
	}
	want := front.New(times)
	if len(times) < 200 {
		want = least(times)
	}
	if got := w.q.Lower(); !slices.Equal(got, want) {
		w.t.Fatalf("%s, %s: Lower is %s, want %s", w.name, step, told(got), told(want))
	}
}

func (w *watched) holdPeek(step string, i int) {
	w.t.Helper()
	got, ok := w.q.Peek(i)
	if i < 0 || i >= len(w.waits()) {
		if ok || !isNothing(got) {
			w.t.Fatalf("%s, %s: Peek(%d) of %d: %s, %v", w.name, step, i, len(w.waits()), told(got), ok)
		}
		return
	}
	if want := w.waits()[i]; !ok || !same(got, want) {
		w.t.Fatalf("%s, %s: Peek(%d): %s, %v; want %s", w.name, step, i, told(got), ok, told(want))
	}
}

// pushOnly and popOnly ask no more than the call itself does.
func (w *watched) pushOnly(l []api.Up) {
	w.t.Helper()
	want := api.OK
	if len(w.waits())+len(l) > api.MaxQueue {
		want = api.ErrMany
	}
	if e := w.q.Push(l); e != want {
		w.t.Fatalf("%s: Push of %d behind %d: error %d, want %d", w.name, len(l), len(w.waits()), int(e), int(want))
	}
	if want == api.OK {
		w.list = append(w.list, copied(l)...)
		w.most = max(w.most, len(w.waits()))
	}
}

func (w *watched) popOnly() {
	w.t.Helper()
	got, ok := w.q.Pop()
	if len(w.waits()) == 0 {
		if ok || !isNothing(got) {
			w.t.Fatalf("%s: Pop of none: %s, %v", w.name, told(got), ok)
		}
		return
	}
	if want := w.list[w.gone]; !ok || !same(got, want) {
		w.t.Fatalf("%s: Pop: %s, %v; want %s", w.name, told(got), ok, told(want))
	}
	w.gone++
}

func (w *watched) push(l ...api.Up) {
	w.t.Helper()
	w.pushOnly(l)
	w.hold(fmt.Sprint("Push of ", len(l)))
}

func (w *watched) pop(times int) {
	w.t.Helper()
	for range times {
		w.popOnly()
		w.hold("Pop")
	}
}

// skip is many pops without a question between them.
func (w *watched) skip(times int) {
	w.t.Helper()
	for range times {
		w.popOnly()
	}
	w.hold(fmt.Sprint("Pop of ", times))
}

// refuses is a push of what there is no place for: nothing has changed.
func (w *watched) refuses(l []api.Up) {
	w.t.Helper()
	if e := w.q.Push(l); e != api.ErrMany {
		w.t.Fatalf("%s: Push of %d behind %d: error %d, want ErrMany", w.name, len(l), len(w.waits()), int(e))
	}
	w.hold(fmt.Sprint("refused Push of ", len(l)))
}

func TestThePage(t *testing.T) { // P19.1: the page's example
	q, e := queue.New(1)
	if e != api.OK || !q.Open() || q.Len() != 0 {
		t.Fatalf("error %d, Open %v, Len %d", int(e), q.Open(), q.Len())
	}
	first, second := up(r(1, "a"), 2, 3, 4), up(r("b"), 1, 5, -6)
	if e := q.Push([]api.Up{first, second}); e != api.OK || q.Open() || q.Len() != 2 {
		t.Fatalf("error %d, Open %v, Len %d", int(e), q.Open(), q.Len())
	}
	if u, ok := q.Pop(); !ok || !same(u, first) || q.Len() != 1 || q.Open() {
		t.Fatalf("%v, %v, Len %d, Open %v", u, ok, q.Len(), q.Open())
	}
	if u, ok := q.Pop(); !ok || !same(u, second) || q.Len() != 0 || !q.Open() {
		t.Fatalf("%v, %v, Len %d, Open %v", u, ok, q.Len(), q.Open())
	}
	if u, ok := q.Pop(); ok || !isNothing(u) || q.Len() != 0 || !q.Open() {
		t.Fatalf("%v, %v, Len %d, Open %v", u, ok, q.Len(), q.Open())
	}
	if in, out := q.Passed(); in != 2 || out != 2 {
		t.Fatalf("%d, %d", in, out)
	}
}

func TestByHand(t *testing.T) { // P19.1: each call, told by hand
	q, _ := queue.New(2)
	ask := func(step string, length int, open bool, in, out int, lower ...api.Time) {
		t.Helper()
		gotIn, gotOut := q.Passed()
		if q.Len() != length || q.Open() != open || gotIn != in || gotOut != out || !slices.Equal(q.Lower(), lower) {
			t.Fatalf("%s: Len %d, Open %v, Passed %d, %d, Lower %v", step, q.Len(), q.Open(), gotIn, gotOut, q.Lower())
		}
	}
	is := func(want int, u api.Up, ok bool) {
		t.Helper()
		if !ok || u.Diff != want {
			t.Fatalf("%v, %v, want %d", u, ok, want)
		}
	}
	ask("new", 0, true, 0, 0)
	q.Push([]api.Up{up(r(1), 2, 0, 11)})
	ask("one", 1, true, 1, 0, at(2, 0))
	q.Push([]api.Up{up(r(2), 0, 2, 12), up(r(1), 2, 2, 13)})
	ask("three", 3, false, 3, 0, at(0, 2), at(2, 0))
	u, ok := q.Peek(2)
	is(13, u, ok)
	u, ok = q.Pop()
	is(11, u, ok)
	ask("two", 2, false, 3, 1, at(0, 2))
	u, ok = q.Pop()
	is(12, u, ok)
	ask("one again", 1, true, 3, 2, at(2, 2))
	u, ok = q.Peek(0)
	is(13, u, ok)
	q.Push([]api.Up{up(r(1), 2, 2, 14), up(r(1), 1, 1, 15)})
	ask("three again", 3, false, 5, 2, at(1, 1))
	for _, want := range []int{13, 14, 15} {
		u, ok = q.Pop()
		is(want, u, ok)
	}
	ask("none", 0, true, 5, 5)
}

func TestRooms(t *testing.T) { // P19.1: New, and Open with one fewer than room, with just room, with more
	for _, room := range []int{1, 2, 3, 4, 5, 7, 8, 9, 100, 1000, api.MaxRoom - 1, api.MaxRoom} {
		w := watch(t, fmt.Sprint("room ", room), room)
		if !w.q.Open() {
			t.Fatalf("room %d: not Open, and none waits", room)
		}
		w.push(plain(0, room-1)...)
		if !w.q.Open() {
			t.Fatalf("room %d: not Open with one fewer", room)
		}
		w.push(plain(room-1, room)...)
		if w.q.Open() {
			t.Fatalf("room %d: Open with just as many", room)
		}
		if room < api.MaxRoom {
			w.push(plain(room, room+1)...)
			if w.q.Open() {
				t.Fatalf("room %d: Open with one more", room)
			}
			w.pop(1)
		}
		if w.q.Open() {
			t.Fatalf("room %d: Open with just as many, again", room)
		}
		w.pop(1)
		if !w.q.Open() {
			t.Fatalf("room %d: not Open with one fewer, again", room)
		}
	}
}

func TestRoomsThatMayNotBe(t *testing.T) { // P19.1: ErrArg, and no queue
	for _, room := range []int{0, -1, -2, -api.MaxRoom, low, low + 1, api.MaxRoom + 1, api.MaxRoom + 2, 1 << 32, 1<<32 + 1, high - 1, high} {
		if q, e := queue.New(room); q != nil || e != api.ErrArg {
			t.Errorf("New(%d): queue %v, error %d", room, q != nil, int(e))
		}
	}
}

func TestRoomIsNotHeldAgainstPushes(t *testing.T) { // P19.1: of one list and of several
	w := watch(t, "room 1", 1)
	w.push(changes(0, 50)...)
	for i := range 50 {
		w.push(change(50 + i))
	}
	w.push(changes(100, 300)...)
	w.skip(300)
}

func TestPushOfNothing(t *testing.T) { // P19.1: of a new queue, of one that has some, of one that is full, of one that has none any more
	w := watch(t, "nothing", 3)
	nothing := func() {
		t.Helper()
		w.push()
		w.push([]api.Up{}...)
		w.push(changes(0, 5)[:0]...)
		if e := w.q.Push(nil); e != api.OK {
			t.Fatalf("error %d", int(e))
		}
		w.hold("Push of nil")
	}
	nothing()
	w.push(changes(0, 3)...)
	nothing()
	w.pop(2)
	nothing()
	w.push(plain(0, api.MaxQueue-1)...)
	nothing()
	w.skip(api.MaxQueue)
	nothing()
	w.push(change(9))
}

func TestNoneWaits(t *testing.T) { // P19.1: Pop and Peek of a queue that never had any, and of one that has none any more
	w := watch(t, "none", 4)
	w.pop(3)
	w.push(changes(0, 1)...)
	w.pop(3)
	w.push(changes(1, 6)...)
	w.pop(8)
	w.push(changes(6, 7)...)
	w.pop(3)
	if got := w.q.Lower(); len(got) != 0 {
		t.Fatalf("Lower of none: %v", got)
	}
}

func TestPeeks(t *testing.T) { // P19.1: of the first and the last that wait, of the one behind it, of numbers that no place has; nothing goes by it
	q, _ := queue.New(9)
	q.Push(changes(0, 7))
	q.Pop()
	q.Pop()
	for range 2 {
		for i := range 5 {
			if u, ok := q.Peek(i); !ok || !same(u, change(i+2)) {
				t.Errorf("Peek(%d): %v, %v", i, u, ok)
			}
		}
		for _, i := range []int{5, 6, 7, 8, 9, -1, -2, -5, -8, low, low + 1, low + 7, high, high - 1, high - 7, 1 << 32, -1 << 32} {
			if u, ok := q.Peek(i); ok || !isNothing(u) {
				t.Errorf("Peek(%d): %v, %v", i, u, ok)
			}
		}
	}
	if u, ok := q.Pop(); !ok || !same(u, change(2)) || q.Len() != 4 {
		t.Errorf("%v, %v, Len %d", u, ok, q.Len())
	}
}

func TestLower(t *testing.T) { // P19.1: of times in any order, several times, alike, above one another or not, and of some that may not be
	for _, k := range []struct{ times, want []api.Time }{
		{nil, nil},
		{[]api.Time{at(0, 0)}, []api.Time{at(0, 0)}},
		{[]api.Time{at(3, 4), at(3, 4), at(3, 4)}, []api.Time{at(3, 4)}},
		{[]api.Time{at(2, 0), at(0, 2), at(2, 2)}, []api.Time{at(0, 2), at(2, 0)}},
		{[]api.Time{at(5, 5), at(4, 4), at(6, 3), at(4, 5)}, []api.Time{at(4, 4), at(6, 3)}},
		{[]api.Time{at(3, 0), at(2, 1), at(1, 2), at(0, 3)}, []api.Time{at(0, 3), at(1, 2), at(2, 1), at(3, 0)}},
		{[]api.Time{at(0, 1), at(0, 2), at(0, 0)}, []api.Time{at(0, 0)}},
		{[]api.Time{at(1, 0), at(2, 0), at(0, 0)}, []api.Time{at(0, 0)}},
		{[]api.Time{at(api.MaxTime, 0), at(0, api.MaxTime)}, []api.Time{at(0, api.MaxTime), at(api.MaxTime, 0)}},
		{[]api.Time{at(-1, 5), at(0, 0), at(low, high), at(high, high)}, []api.Time{at(low, high), at(-1, 5), at(0, 0)}},
	} {
		q, _ := queue.New(3)
		q.Push([]api.Up{up(r(1), low, low, 1), up(r(2), low, low, 0)})
		for i, time := range k.times {
			q.Push([]api.Up{{Time: time, Diff: i}})
		}
		q.Pop()
		q.Pop()
		for range 2 {
			if got := q.Lower(); !slices.Equal(got, k.want) {
				t.Errorf("%v: %v, want %v", k.times, got, k.want)
			}
		}
		if q.Len() != len(k.times) {
			t.Errorf("%v: Len %d behind Lower", k.times, q.Len())
		}
	}
}

func TestLowerOfMoreThanAFrontierHas(t *testing.T) { // P19.1: front.New tells all of them
	q, _ := queue.New(1)
	var l []api.Up
	var want []api.Time
	for i := range 3 * api.MaxFront {
		l = append(l, up(nil, 3*api.MaxFront-i, i, 1), up(nil, 3*api.MaxFront-i, i+1, 1))
		want = append(want, at(i+1, 3*api.MaxFront-i-1))
	}
	if e := q.Push(l); e != api.OK || !slices.Equal(q.Lower(), want) {
		t.Fatalf("error %d, %s", int(e), told(q.Lower()))
	}
}

func TestFull(t *testing.T) { // P19.1: a push that leads to MaxQueue just, and one more than that; also with what went round
	one := plain(0, 1)
	for _, k := range []struct {
		name         string
		first, round int // so many are pushed and, as often, popped ahead of it
		lists        []int
	}{
		{"one list", 0, 0, []int{api.MaxQueue}},
		{"two lists", 0, 0, []int{api.MaxQueue - 1, 1}},
		{"two lists, the other way", 0, 0, []int{1, api.MaxQueue - 1}},
		{"several lists", 0, 0, []int{3, 10000, 1, 0, 50000, 5532}},
		{"one list behind what went round", 5, 3, []int{api.MaxQueue}},
		{"several lists behind what went round", 1000, 7, []int{60000, 5535, 1}},
		{"behind a whole queue that went", api.MaxQueue, 1, []int{api.MaxQueue}},
		{"behind nearly a whole queue that went", api.MaxQueue - 1, 1, []int{2, api.MaxQueue - 2}},
		{"behind whole queues that went", api.MaxQueue, 2, []int{api.MaxQueue - 10, 10}},
	} {
		w := watch(t, k.name, 10)
		for range k.round {
			w.push(plain(0, k.first)...)
			w.skip(k.first)
		}
		from := 0
		for _, count := range k.lists {
			w.push(plain(from, from+count)...)
			from += count
		}
		if w.q.Len() != api.MaxQueue {
			t.Fatalf("%s: Len %d", k.name, w.q.Len())
		}
		w.refuses(one)
		w.refuses(plain(0, 2))
		w.refuses(plain(0, api.MaxQueue))
		w.refuses(plain(0, api.MaxQueue+1))
		w.pop(1)
		w.refuses(plain(0, 2))
		w.push(one...)
		w.refuses(one)
		w.skip(3)
		w.refuses(plain(0, 4))
		w.push(plain(0, 3)...)
		w.refuses(one)
		w.skip(api.MaxQueue + 1)
	}
}

func TestTooManyAtOnce(t *testing.T) { // P19.1: ErrMany; nothing has changed, and a push that has place is taken behind it
	w := watch(t, "too many", 10)
	w.refuses(plain(0, api.MaxQueue+1))
	w.refuses(plain(0, 2*api.MaxQueue))
	w.refuses(changes(0, api.MaxQueue+1))
	w.push(changes(0, 3)...)
	w.refuses(plain(0, api.MaxQueue-2))
	w.refuses(plain(0, api.MaxQueue))
	w.refuses(plain(0, api.MaxQueue+1))
	w.push(changes(3, 5)...)
	w.pop(1)
	w.refuses(plain(0, api.MaxQueue-3))
	w.pop(4)
	w.refuses(plain(0, api.MaxQueue+1))
	w.pop(1)
	w.push(plain(0, api.MaxQueue)...)
	w.skip(api.MaxQueue)
}

func TestFullStaysFull(t *testing.T) { // P19.2: one goes, one comes, twice round a full queue
	w := watch(t, "full", api.MaxRoom)
	w.push(plain(0, api.MaxQueue)...)
	for i := range 2*api.MaxQueue + 10 {
		w.popOnly()
		w.pushOnly([]api.Up{up(nil, 0, i, -i)})
		w.holdNumbers("one goes, one comes")
		if i%5000 == 0 {
			w.refuses(plain(0, 1))
		}
	}
	w.skip(api.MaxQueue)
	w.pop(1)
}

func TestPassed(t *testing.T) { // P19.1: behind a great many pushes and pops
	q, _ := queue.New(5)
	in, out := 0, 0
	for i := range 400000 {
		l := plain(i, i+i%4)
		if e := q.Push(l); e != api.OK {
			t.Fatalf("error %d", int(e))
		}
		in += len(l)
		for range i % 3 {
			if _, ok := q.Pop(); ok {
				out++
			}
		}
		if q.Len() > 1000 {
			for range q.Len() {
				q.Pop()
				out++
			}
		}
		if gotIn, gotOut := q.Passed(); gotIn != in || gotOut != out || q.Len() != in-out {
			t.Fatalf("Passed %d, %d, want %d, %d; Len %d", gotIn, gotOut, in, out, q.Len())
		}
	}
	if in < 500000 || out < 400000 {
		t.Fatalf("too few: %d, %d", in, out)
	}
	for range 10 {
		q.Push(make([]api.Up, api.MaxQueue+1))
		q.Peek(0)
		q.Lower()
	}
	if gotIn, gotOut := q.Passed(); gotIn != in || gotOut != out {
		t.Fatalf("Passed %d, %d behind refused pushes and peeks, want %d, %d", gotIn, gotOut, in, out)
	}
}

func TestNilQueue(t *testing.T) { // P19.1: ErrNil, false, zeros, nothing
	var q *queue.Queue
	for range 2 {
		for _, l := range [][]api.Up{nil, {}, changes(0, 1), changes(0, 9), plain(0, api.MaxQueue), plain(0, api.MaxQueue+1)} {
			if e := q.Push(l); e != api.ErrNil {
				t.Errorf("Push of %d: error %d", len(l), int(e))
			}
		}
		if u, ok := q.Pop(); ok || !isNothing(u) {
			t.Errorf("Pop: %v, %v", u, ok)
		}
		for _, i := range []int{0, 1, -1, low, high} {
			if u, ok := q.Peek(i); ok || !isNothing(u) {
				t.Errorf("Peek(%d): %v, %v", i, u, ok)
			}
		}
		if q.Len() != 0 || q.Open() || len(q.Lower()) != 0 {
			t.Errorf("Len %d, Open %v, Lower %v", q.Len(), q.Open(), q.Lower())
		}
		if in, out := q.Passed(); in != 0 || out != 0 {
			t.Errorf("Passed %d, %d", in, out)
		}
	}
}

func TestZeroValueEnds(t *testing.T) { // the rule of ends: what it answers is open
	var q queue.Queue
	q.Pop()
	q.Peek(0)
	q.Lower()
	q.Push(nil)
	q.Push(changes(0, 3))
	q.Peek(1)
	q.Lower()
	q.Open()
	q.Passed()
	for range q.Len() + 1 {
		q.Pop()
	}
}

// kindsOfRows are rows of other lengths and kinds, and none.
func kindsOfRows() []api.Row {
	long := make(api.Row, 3*api.MaxCols)
	for i := range long {
		long[i] = n(i)
	}
	return []api.Row{
		nil, {}, r(0), r(1), r(low), r(high), r(""), r("a"), r("a", "a"), r("\x00\xff"), r(strings.Repeat("long", api.MaxText)),
		r(1, "a", 2), r("a", 1), long[:api.MaxCols], long, {{Kind: -1}}, {{Kind: 7}, n(1)}, {{Kind: high}},
		{{Kind: api.KindInt, Int: 3, Str: "no part"}}, {{Kind: api.KindStr, Int: 3, Str: "part"}},
	}
}

func TestEachRowAndTime(t *testing.T) { // P19.1: nothing is asked of what waits: rows, times and Diffs that may not be are kept as they are
	w := watch(t, "rows", 3)
	for i, x := range kindsOfRows() {
		w.push(up(x, i, 5, 1), up(x, -i, 5, -1), up(x, low, high, 0))
		w.push(up(x, high, low, low), up(x, api.MaxTime+1, 0, high))
		w.pop(2)
	}
	w.pop(len(w.waits()) + 1)
}

func TestAlike(t *testing.T) { // P19.1: changes that are alike all wait; so do those that come to 0 together
	w := watch(t, "alike", 3)
	w.push(up(r(1), 1, 1, 1), up(r(1), 1, 1, 1), up(r(1), 1, 1, -1))
	w.push(slices.Repeat([]api.Up{up(r(1), 1, 1, 1)}, 20)...)
	w.push(up(r(1), 1, 1, -21), up(r(1), 1, 1, 0), up(nil, 1, 1, 0), api.Up{}, api.Up{})
	if w.q.Len() != 28 {
		t.Fatalf("Len %d", w.q.Len())
	}
	w.pop(29)
}

func TestRoundAndRound(t *testing.T) { // P19.2: each way in which few are pushed, popped, and pushed again, so that the ring's end falls anywhere, and it grows there
	for first := range 10 {
		for gone := range first + 1 {
			for more := range 20 {
				w := watch(t, fmt.Sprint(first, " come, ", gone, " go, ", more, " come"), 4)
				w.pushOnly(plain(0, first))
				for range gone {
					w.popOnly()
				}
				w.push(plain(first, first+more)...)
				w.pop(2)
				w.pushOnly(plain(first+more, first+more+3))
				for range first + more + 3 {
					w.popOnly()
				}
				w.hold("at the end")
			}
		}
	}
}

func TestOneByOne(t *testing.T) { // P19.2: what waits goes round several times, grows while it does so, and comes to nothing in between
	w := watch(t, "one by one", 6)
	next := 0
	for _, most := range []int{1, 2, 3, 4, 5, 8, 9, 17, 40, 3} {
		for range 3 * most {
			for range most - len(w.waits()) {
				w.push(change(next))
				next++
			}
			w.pop(1)
		}
		w.pop(most)
		if w.q.Len() != 0 {
			t.Fatalf("Len %d", w.q.Len())
		}
	}
}

// chance tells numbers that follow from one alone: the same ones whenever it is made.
type chance uint64

func (x *chance) below(bound int) int {
	*x = *x*6364136223846793005 + 1442695040888963407
	return int(uint64(*x)>>33) % bound
}

// number is one of few, and now and then as great as may be.
func (x *chance) number() int {
	if x.below(30) == 0 {
		return []int{low, high, low + 1, api.MaxTime, api.MaxTime + 1, -1}[x.below(6)]
	}
	return x.below(6)
}

// change is one of few, so that many are alike.
func (x *chance) change() api.Up {
	rows := kindsOfRows()
	return up(rows[x.below(len(rows))], x.number(), x.number(), x.number())
}

func (x *chance) changes(most int) []api.Up {
	var l []api.Up
	for range x.below(most + 1) {
		l = append(l, x.change())
	}
	return l
}

// crowd is more than any queue takes.
var crowd = make([]api.Up, 2*api.MaxQueue)

// call does one of the calls, drawn. Of the times that it is called, more push for a while, then more pop.
func (x *chance) call(w *watched, rising bool) {
	w.t.Helper()
	pushes := 3
	if rising {
		pushes = 7
	}
	switch x.below(100) {
	case 0:
		w.skip(len(w.waits()))
	case 1, 2:
		w.refuses(crowd[:api.MaxQueue+1-len(w.waits())])
	case 3, 4:
		w.push()
	default:
		if x.below(10) < pushes {
			w.push(x.changes(1 + x.below(6))...)
		} else {
			w.pop(1 + x.below(6))
		}
	}
}

func run(t *testing.T, seed uint64, room, calls int) *watched {
	t.Helper()
	x := chance(seed)
	w := watch(t, fmt.Sprint("seed ", seed), room)
	for i := range calls {
		x.call(w, i/25%2 == 0)
	}
	return w
}

func TestCallsThatAreDrawn(t *testing.T) { // P19.1, P19.2: held against a plain list behind each call
	most, behind := 0, 0
	for i, room := range []int{1, 1, 2, 2, 3, 3, 5, 8, 13, 40, 1000, api.MaxRoom} {
		w := run(t, uint64(i+1), room, 1000)
		most, behind = max(most, len(w.list)), max(behind, w.most)
		w.skip(len(w.waits()) + 1)
	}
	if most < 900 || behind < 50 {
		t.Errorf("at most %d were pushed, and %d waited at a time", most, behind)
	}
}

func TestWhatIsPoppedIsWhatWasPushed(t *testing.T) { // P19.2: over long rows of calls
	x := chance(19)
	q, _ := queue.New(100)
	var pushed, popped []int
	for i := range 300000 {
		if x.below(2) == 0 {
			count := x.below(5)
			l := plain(len(pushed), len(pushed)+count)
			if e := q.Push(l); e != api.OK {
				t.Fatalf("error %d", int(e))
			}
			for _, u := range l {
				pushed = append(pushed, u.Diff)
			}
		}
		for range x.below(4) {
			if u, ok := q.Pop(); ok {
				popped = append(popped, u.Diff)
			} else if len(pushed) != len(popped) {
				t.Fatalf("Pop tells none, and %d of %d came", len(popped), len(pushed))
			}
		}
		if i == 100000 {
			if e := q.Push(plain(0, api.MaxQueue+1)); e != api.ErrMany {
				t.Fatalf("error %d", int(e))
			}
		}
	}
	for range q.Len() {
		u, _ := q.Pop()
		popped = append(popped, u.Diff)
	}
	if len(pushed) < 200000 || !slices.Equal(pushed, popped) {
		t.Fatalf("%d were pushed, %d popped, and they are not the same", len(pushed), len(popped))
	}
}

func TestAnswersHangOnTheQueuesCallsAlone(t *testing.T) { // from arguments alone: queues beside one another know nothing of each other
	a, b := watch(t, "one", 2), watch(t, "another", 5)
	x, y := chance(5), chance(5)
	for i := range 60 {
		x.call(a, true)
		b.push(change(i), change(-i))
		b.pop(i % 3)
	}
	c := watch(t, "a third", 2)
	for range 60 {
		y.call(c, true)
	}
	if !slices.EqualFunc(a.waits(), c.waits(), same) || a.gone != c.gone {
		t.Fatal("the same calls are drawn, and the lists differ")
	}
	a.hold("at the end")
	b.hold("at the end")
	c.hold("at the end")
}

func FuzzQueues(f *testing.F) {
	f.Add(uint64(1), uint16(0), uint8(30))
	f.Add(uint64(2), uint16(5), uint8(60))
	f.Add(uint64(3), uint16(65535), uint8(9))
	f.Fuzz(func(t *testing.T, seed uint64, room uint16, calls uint8) {
		run(t, seed, int(room)+1, int(calls))
	})
}

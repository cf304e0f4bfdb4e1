package hold_test

import (
	"fmt"
	"reflect"
	"runtime"
	"slices"
	"testing"
	"unsafe"
	"weak"

	"runnel/api"
	"runnel/hold"
)

// withRoom is the list with spare room behind it, which is filled.
func withRoom[T any](l []T, spare ...T) []T {
	return slices.Clip(append(slices.Clip(slices.Clone(l)), spare...))[:len(l)]
}

// everything is a list with its spare room.
func everything[T any](l []T) []T { return l[:cap(l)] }

// roomy is a change with spare room behind its row, roomyTimes is a list of times with it.
func roomy(u api.Up) api.Up {
	u.Row = withRoom(u.Row, s("spare"), n(77))
	return u
}

func roomyTimes(l []api.Time) []api.Time { return withRoom(l, at(71, 72), at(0, 0)) }

// spoilList writes over what is appended to a list, and over the list itself, spare room too.
func spoilList[T any](l []T, x T) {
	for _, part := range [][]T{append(l, x), everything(l)} {
		for i := range part {
			part[i] = x
		}
	}
}

func spoilRow(l api.Row)      { spoilList(l, s("over")) }
func spoilTimes(l []api.Time) { spoilList(l, at(-83, -84)) }
func spoilUps(l []api.Up) {
	for _, u := range everything(l) {
		spoilRow(u.Row)
	}
	spoilList(l, up(r("over"), -83, -84, -85))
}

// memoryChanges are some of each kind: of several rows and times, that come to 0, that have a Diff of 0, that are too great.
func memoryChanges() []api.Up {
	var l []api.Up
	for i, x := range kindsOfRows() {
		l = append(l, up(x, i%3, 3-i%4, i), up(x, i%3, 3-i%4, 2), up(x, 1, 1, high), up(x, 1, 1, 1), up(x, 2, 2, 0))
		if i%3 == 0 {
			l = append(l, up(x, i%3, 3-i%4, -i-2))
		}
	}
	x := chance(3)
	for range 100 {
		l = append(l, x.change(true))
	}
	return l
}

// memoryFronts are lists of times, some of them no frontiers.
func memoryFronts() [][]api.Time {
	return [][]api.Time{nil, {}, {at(0, 0)}, {at(1, 1)}, {at(0, 2), at(2, 0)}, {at(2, 0), at(0, 2), at(0, 2)}, {at(-1, -1)}, {at(high, low), at(1, 2), at(1, 1)}}
}

func TestWhatIsHandedInIsLeft(t *testing.T) { // the rule of memory: neither changed nor kept, spare room included
	w := watch(t, "handed in")
	var rows []api.Row
	var fronts [][]api.Time
	for i, u := range memoryChanges() {
		given := roomy(u)
		before := slices.Clone(everything(given.Row))
		w.addOnly(given)
		if !reflect.DeepEqual(everything(given.Row), before) {
			t.Fatalf("%v was changed to %v", before, everything(given.Row))
		}
		rows = append(rows, given.Row)
		if i%4 > 0 {
			continue
		}
		f := roomyTimes(memoryFronts()[i/4%len(memoryFronts())])
		was := slices.Clone(everything(f))
		w.nextOnly(f)
		if !slices.Equal(everything(f), was) {
			t.Fatalf("%v was changed to %v", was, everything(f))
		}
		fronts = append(fronts, f)
	}
	if len(w.list) < 20 {
		t.Fatalf("only %d are held", len(w.list))
	}
	w.hold("all are added")
	for _, x := range rows {
		spoilRow(x)
		w.hold("a row that was handed in is written over")
	}
	for _, f := range fronts {
		spoilTimes(f)
		w.hold("a list that was handed in is written over")
	}
	w.all()
}

func TestWrittenOverAtOnce(t *testing.T) { // the rule of memory: each behind its call, ahead of the next one
	w := watch(t, "at once")
	for range 3 {
		for i, u := range memoryChanges() {
			given := roomy(u)
			w.addOnly(given)
			spoilRow(given.Row)
			w.hold("a row is written over")
			if i%5 == 0 {
				f := roomyTimes(memoryFronts()[i/5%len(memoryFronts())])
				w.nextOnly(f)
				spoilTimes(f)
				w.hold("a list is written over")
			}
		}
	}
	w.all()
}

func TestOneRowAgainAndAgain(t *testing.T) { // the rule of memory: a row and a list that the caller fills anew for each call
	w := watch(t, "again")
	values, f := make(api.Row, 4), make([]api.Time, 3)
	for i := range 200 {
		for j := range values {
			values[j] = n(i * (j + 1) % 5)
		}
		w.add(up(values[:i%4], i%3, i%5, i%4-1), up(values[i%2:2], i%3, i%5, 1))
		if i%3 == 0 {
			f[0], f[1], f[2] = at(i%4, 2), at(2, i%4), at(i, i)
			w.nextOnly(f[:i%4])
			w.hold("Next")
		}
	}
	w.all()
}

func TestRowsThatAreOne(t *testing.T) { // the rule of memory: changes whose rows have memory in common
	one := r(1, "a", 2, "b")
	w := watch(t, "rows that are one")
	w.add(up(one, 0, 0, 1), up(one, 0, 1, 2), up(one[:2], 0, 0, 3), up(one[1:], 1, 0, 4), up(one[:0], 2, 2, 5), up(one[:2], 2, 2, 6))
	taken := places{}
	take(t, taken, "what is handed in", one)
	askAll(t, taken, w.h)
	spoilRow(one)
	w.hold("it is written over")
	for range w.h.Len() {
		u, _ := w.h.Next(nil)
		take(t, taken, "Next", u.Row)
	}
}

// places are where the things of lists lie, each of which may be there but once. They keep what was told, so that no memory is told twice only because it came to be free.
type places map[unsafe.Pointer]string

func take[T any](t *testing.T, p places, name string, l []T) {
	t.Helper()
	for i := range everything(l) {
		place := unsafe.Pointer(&everything(l)[i])
		if other, there := p[place]; there {
			t.Fatalf("%s lies where %s does", name, other)
		}
		p[place] = name
	}
}

// askAll takes all that the hold tells of what is held.
func askAll(t *testing.T, p places, h *hold.Hold) {
	t.Helper()
	take(t, p, "Lower", h.Lower())
	l := h.Ups()
	take(t, p, "Ups", l)
	for i, u := range everything(l) {
		take(t, p, fmt.Sprint("Ups, row ", i), u.Row)
	}
}

func TestAnswersAreTheirOwn(t *testing.T) { // the rule of memory: rows and lists, spare room too, of one answer and of several, and of what was handed in
	taken := places{}
	h := hold.New()
	for i, u := range memoryChanges() {
		given := roomy(u)
		take(t, taken, "a row that is handed in", given.Row)
		h.Add(given)
		if i%10 > 0 {
			continue
		}
		askAll(t, taken, h)
		askAll(t, taken, h)
		for _, f := range memoryFronts() {
			f = roomyTimes(f)
			take(t, taken, "a list that is handed in", f)
			if i%20 > 0 {
				u, _ := h.Next(f)
				take(t, taken, "Next", u.Row)
			}
		}
		askAll(t, taken, h)
	}
	for range h.Len() {
		u, _ := h.Next(nil)
		take(t, taken, "Next", u.Row)
	}
}

// filled is a hold with some of each kind.
func filled(t *testing.T, name string) *watched {
	t.Helper()
	w := watch(t, name)
	for _, u := range memoryChanges() {
		w.addOnly(u)
	}
	w.hold("filled")
	return w
}

func TestUpsAreWrittenOver(t *testing.T) { // the rule of memory: neither the hold nor another answer is changed with them
	w := filled(t, "ups")
	for range 3 {
		first, second := w.h.Ups(), w.h.Ups()
		want := copied(second)
		for i := range first { // one row after the other: those behind it are left, too
			spoilRow(first[i].Row)
			if !slices.EqualFunc(first[i+1:], want[i+1:], same) {
				t.Fatalf("row %d of Ups is written over, and so are others", i)
			}
		}
		spoilUps(first)
		if !slices.EqualFunc(second, want, same) {
			t.Fatalf("%s, want %s", told(second), told(want))
		}
		w.hold("one is written over")
		spoilUps(second)
		w.hold("both are written over")
		w.add(up(r("new"), 1, 1, 1), up(r("new"), 0, 3, 2), up(r("new"), 1, 1, -1))
		w.nextOnly(nil)
		w.hold("Next")
	}
	w.all()
}

func TestNextOfWhatUpsTold(t *testing.T) { // the rule of memory: what is told twice, by Ups and by Next, each written over in turn
	for _, first := range []string{"Ups", "Next"} {
		w := filled(t, first)
		for w.h.Len() > 0 {
			ups := w.h.Ups()
			want := copied(ups)
			next, ok := w.h.Next(nil)
			if !ok {
				t.Fatal("Next tells none")
			}
			w.drop(slices.IndexFunc(w.list, func(u api.Up) bool { return same(u, want[0]) }))
			if first == "Ups" {
				spoilUps(ups)
				if !same(next, want[0]) {
					t.Fatalf("Ups are written over, and Next told %v, want %v", next, want[0])
				}
			} else {
				spoilRow(next.Row)
				if !slices.EqualFunc(ups, want, same) {
					t.Fatalf("what Next told is written over, and Ups are %s, want %s", told(ups), told(want))
				}
			}
			w.hold(first + " is written over")
		}
	}
}

func TestNextIsWrittenOver(t *testing.T) { // the rule of memory: also what is added to its place, and what else was told
	w := filled(t, "next")
	x := chance(9)
	var answers, want []api.Up
	for i := 0; w.h.Len() > 0; i++ {
		u, ok := w.h.Next(nil)
		if !ok {
			t.Fatal("Next tells none")
		}
		first := slices.MinFunc(w.list, order)
		w.drop(slices.IndexFunc(w.list, func(v api.Up) bool { return order(v, first) == 0 }))
		answers, want = append(answers, u), append(want, first)
		if i < 60 {
			again := x.change(true)
			w.addOnly(again)
			w.addOnly(api.Up{Row: u.Row, Time: u.Time, Diff: 1}) // what was told is handed in again
		}
		if i%2 == 0 {
			spoilRow(answers[i].Row)
			answers[i] = want[i]
		}
		w.hold("what Next told is written over")
		if !slices.EqualFunc(answers, want, same) {
			t.Fatalf("%s, want %s", told(answers), told(want))
		}
	}
}

func TestLowerIsWrittenOver(t *testing.T) { // the rule of memory: neither the hold nor another answer is changed with it
	w := watch(t, "lower")
	for i := range 9 {
		w.add(up(r(i), i, 9-i, 1), up(r(i), i, 10-i, 1))
		first, second := w.h.Lower(), w.h.Lower()
		want := slices.Clone(second)
		spoilTimes(first)
		if !slices.Equal(second, want) {
			t.Fatalf("%v, want %v", second, want)
		}
		w.hold("one is written over")
		w.tells(second) // what Lower told, handed in
		if !slices.Equal(second, want) {
			t.Fatalf("%v, want %v", second, want)
		}
		spoilTimes(second)
		w.hold("both are written over")
	}
	w.all()
}

func TestToldIsHandedInAgain(t *testing.T) { // the rule of memory: what one hold told, added to another one, is the memory of neither
	a, b := filled(t, "one"), watch(t, "another")
	l := a.h.Ups()
	for _, u := range l {
		b.addOnly(u)
	}
	for i, u := range l {
		a.addOnly(api.Up{Row: u.Row, Time: u.Time, Diff: -u.Diff / 2})
		a.addOnly(api.Up{Row: u.Row, Time: at(7, i), Diff: 1})
	}
	spoilUps(l)
	a.hold("what it told is written over")
	b.hold("what it was handed is written over")
	b.all()
	a.all()
}

func TestWhatIsGoneIsNotKept(t *testing.T) { // no more is kept than what is held: neither rows that were handed in nor rows that were told
	h := hold.New()
	var gone []weak.Pointer[api.Val]
	ask := func(step string) {
		t.Helper()
		runtime.GC()
		runtime.GC()
		for i, p := range gone {
			if p.Value() != nil {
				t.Errorf("%s: row %d is kept", step, i)
			}
		}
	}
	give := func(u api.Up) { // the row that is handed in is the caller's alone
		given := roomy(u)
		h.Add(given)
		gone = append(gone, weak.Make(&everything(given.Row)[0]))
	}
	takeNext := func(f []api.Time) {
		u, _ := h.Next(f)
		if len(u.Row) > 0 {
			gone = append(gone, weak.Make(&u.Row[0]))
		}
	}
	for round := range 2 {
		for i := range 20 {
			give(up(r(i, "x"), i%4, 1, 1))
			give(up(r(i, "x"), i%4, 1, 2))
		}
		give(up(nil, 0, 0, 1))
		give(up(r(), 0, 6, 1))
		ask("added")
		for i := range 12 {
			takeNext(times(at(2+i%3, 0)))
		}
		ask("some are told")
		if h.Len() != 10 {
			t.Errorf("Len %d", h.Len())
		}
		for _, u := range h.Ups()[:5*round] {
			h.Add(api.Up{Row: u.Row, Time: u.Time, Diff: -u.Diff})
		}
		ask("some come to 0")
		for range h.Len() {
			takeNext(nil)
		}
		ask("all are told")
	}
	runtime.KeepAlive(h)
}

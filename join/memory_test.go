package join_test

import (
	"fmt"
	"reflect"
	"runtime"
	"slices"
	"testing"
	"unsafe"
	"weak"

	"runnel/api"
	"runnel/join"
)

// withRoom is the list with spare room behind it, which is filled.
func withRoom[T any](l []T, spare ...T) []T {
	return slices.Clip(append(slices.Clip(slices.Clone(l)), spare...))[:len(l)]
}

// everything is a list with its spare room.
func everything[T any](l []T) []T { return l[:cap(l)] }

// roomy is a change with spare room behind its row, roomyTimes is a list of times with it.
func roomy(u api.Up) api.Up {
	u.Row = withRoom(u.Row, s("spare"), n(77))
	return u
}

func roomyTimes(l []api.Time) []api.Time { return withRoom(l, at(71, 72), at(0, 0)) }

// spoilList writes over what is appended to a list, and over the list itself, spare room too.
func spoilList[T any](l []T, x T) {
	for _, part := range [][]T{append(l, x), everything(l)} {
		for i := range part {
			part[i] = x
		}
	}
}

func spoilRow(l api.Row)      { spoilList(l, s("over")) }
func spoilTimes(l []api.Time) { spoilList(l, at(-83, -84)) }

// given is a change of a side, or a frontier of it.
type given struct {
	side int
	u    api.Up
	f    []api.Time // nil, where it is a change
}

// memoryCalls are changes and frontiers of both sides: rows of several lengths with one key, of just the key's value, of none that the other side has; some that are refused.
func memoryCalls() []given {
	var l []given
	for i := range 12 {
		side := i % 2
		l = append(l,
			given{side, up(r(1, "a", i%5), i, 1, 1), nil},
			given{side, up(r(1), i, i, 2), nil},
			given{1 - side, up(r(1, i%3), i, 2, -1), nil},
			given{side, up(r(100+i, "alone"), i, 2, 1), nil},
			given{side, up(r(1, "early"), -1, 2, 1), nil},
			given{2 + side, up(r(1, "nowhere"), i, i, 1), nil},
			given{1 - side, up(nil, i, i, 1), nil},
			given{side, up(r(1, "zero"), i, i, 0), nil})
		if i%3 == 2 {
			l = append(l,
				given{side, api.Up{}, times(at(i-2, 1), at(i-1, 0))},
				given{side, api.Up{}, times(at(5, 5), at(4, 4))},
				given{1 - side, api.Up{}, times(at(0, 0), at(-1, 0))},
				given{1 - side, api.Up{}, times(at(i-2, 0))})
		}
	}
	return l
}

// do is one of these calls, with spare room behind what is handed in: neither it nor the room is changed. It tells how what was handed in is written over.
func (w *watched) do(g given) (spoil func()) {
	w.t.Helper()
	if g.f != nil {
		f := roomyTimes(g.f)
		before := slices.Clone(everything(f))
		w.advanceOnly(g.side, f)
		if !slices.Equal(everything(f), before) {
			w.t.Fatalf("%s: %v was changed to %v", w.name, before, everything(f))
		}
		return func() { spoilTimes(f) }
	}
	u := roomy(g.u)
	before := slices.Clone(everything(u.Row))
	w.acceptOnly(g.side, u)
	if !reflect.DeepEqual(everything(u.Row), before) {
		w.t.Fatalf("%s: %v was changed to %v", w.name, before, everything(u.Row))
	}
	return func() { spoilRow(u.Row) }
}

func TestWhatIsHandedInIsLeft(t *testing.T) { // the rule of memory: neither changed nor kept, spare room included
	w := watch(t, "handed in", 1)
	var spoils []func()
	for i, g := range memoryCalls() {
		spoils = append(spoils, w.do(g))
		if i%7 == 3 {
			w.workOnly(i)
		}
	}
	w.hold("all is handed in")
	if len(w.waits) < 50 {
		t.Fatalf("only %d wait", len(w.waits))
	}
	for _, spoil := range spoils {
		spoil()
		w.hold("what was handed in is written over")
	}
	w.work(50)
	w.work(1000)
	w.accept(0, up(r(1, "end"), 99, 99, 1))
	w.accept(1, up(r(1, "end"), 99, 99, 1))
	w.all()
}

func TestWrittenOverAtOnce(t *testing.T) { // the rule of memory: each behind its call, ahead of the next one
	w := watch(t, "at once", 1)
	for i, g := range memoryCalls() {
		w.do(g)()
		w.hold("it is written over")
		if i%5 == 1 {
			w.work(i % 11)
		}
		if i%3 == 1 {
			w.nextOnly()
			w.hold("Next")
		}
	}
	w.all()
}

func TestOneRowAgainAndAgain(t *testing.T) { // the rule of memory: a row and a list that the caller fills anew for each call
	w := watch(t, "again", 1)
	values, f := make(api.Row, 4), make([]api.Time, 2)
	for i := range 80 {
		for j := range values {
			values[j] = n(i * (j + 1) % 5)
		}
		w.accept(i%2, up(values[:1+i%4], i/10, i%3, 1+i%2))
		w.accept(1-i%2, up(values[i%3:3], i/10, i%5, -1))
		if i%10 == 9 {
			f[0], f[1] = at(i/10, 2), at(i/10+1, 0)
			w.advance(i/10%2, f...)
			f[0] = at(i/10+1, 0)
			w.advance(1-i/10%2, f[:1]...)
		}
		if i%3 == 0 {
			w.work(i % 7)
			w.nextOnly()
			w.hold("Next")
		}
	}
	w.all()
}

// places are where the things of lists lie, each of which may be there but once. They keep what was told, so that no memory is told twice only because it came to be free.
type places map[unsafe.Pointer]string

func take[T any](t *testing.T, p places, name string, l []T) {
	t.Helper()
	for i := range everything(l) {
		place := unsafe.Pointer(&everything(l)[i])
		if other, there := p[place]; there {
			t.Fatalf("%s lies where %s does", name, other)
		}
		p[place] = name
	}
}

// askAll takes all that the join and its sides tell of what they have.
func askAll(t *testing.T, p places, j *join.Join) {
	t.Helper()
	take(t, p, "Lower", j.Lower())
	for side := range 2 {
		take(t, p, "Since", j.Side(side).Since())
		for _, l := range [][]api.Up{j.Side(side).Ups(), j.Side(side).Run(r(1))} {
			take(t, p, "a side's changes", l)
			for _, u := range l {
				// Rows of one answer of a side may lie behind one another, each with its room.
				take(t, p, "a side's row", u.Row)
			}
		}
	}
}

func TestAnswersAreTheirOwn(t *testing.T) { // the rule of memory: rows and lists, spare room too, of one answer and of several, of a side's, and of what was handed in
	taken := places{}
	j, _ := join.New(1)
	for i, g := range memoryCalls() {
		if g.f != nil {
			f := roomyTimes(g.f)
			take(t, taken, "a frontier that is handed in", f)
			j.Advance(g.side, f)
		} else {
			u := roomy(g.u)
			take(t, taken, "a row that is handed in", u.Row)
			j.Accept(g.side, u)
		}
		if i%6 > 0 {
			continue
		}
		askAll(t, taken, j)
		askAll(t, taken, j)
		j.Work(i)
		for range i / 6 {
			u, _ := j.Next()
			take(t, taken, "Next", u.Row)
		}
		askAll(t, taken, j)
	}
	if j.Len() < 30 {
		t.Fatalf("only %d wait", j.Len())
	}
	for range j.Len() {
		u, _ := j.Next()
		take(t, taken, "Next", u.Row)
	}
}

func TestOneRowInSeveral(t *testing.T) { // the rule of memory: several changes of one Accept, with one row of the other side, or the one that was handed in, in common
	for side := range 2 {
		w := watch(t, fmt.Sprint("side ", side), 1)
		common := roomy(up(r(1, "common", "more"), 0, 0, 1))
		for i := range 6 {
			w.accept(1-side, up(r(1, "x"), i, 6-i, 1), up(r(1, i), 0, 0, 1), up(r(1), i, 0, 1))
		}
		w.acceptOnly(side, common)
		w.acceptOnly(side, common)
		if w.j.Len() < 20 {
			t.Fatalf("Len %d", w.j.Len())
		}
		taken := places{}
		take(t, taken, "what is handed in", common.Row)
		want := copied(w.waits)
		var got []api.Up
		for range want {
			u, _ := w.j.Next()
			take(t, taken, "Next", u.Row)
			got = append(got, u)
		}
		w.waits = nil
		w.hold("all is told")
		for i := range got { // one after the other: those behind it are left, the sides too
			spoilRow(got[i].Row)
			if !slices.EqualFunc(got[i+1:], want[i+1:], same) {
				t.Fatalf("number %d is written over, and so are others", i)
			}
			w.hold("what Next told is written over")
		}
		spoilRow(common.Row)
		w.hold("what was handed in is written over")
		w.accept(1-side, up(r(1, "y"), 0, 0, 1))
		w.accept(side, up(r(1, "z"), 0, 0, 1))
		w.waits = w.waits[len(w.waits)-w.j.Len():]
		for _, want := range w.waits {
			if u, ok := w.j.Next(); !ok || !same(u, want) {
				t.Fatalf("%v, %v, want %v", u, ok, want)
			}
		}
	}
}

func TestRowThatComesAsItIs(t *testing.T) { // the rule of memory: where the other side's row is just the key, or both are, what comes is as the row that was handed in, and still is another
	for key := range 3 {
		for side := range 2 {
			for _, x := range []api.Row{r(1, 2), r(1, 2, "rest")} {
				w := watch(t, fmt.Sprint("key ", key, " side ", side), key)
				w.accept(1-side, up(x[:key], 0, 0, 1))
				u := roomy(up(x, 0, 0, 1))
				taken := places{}
				take(t, taken, "a row that is handed in", u.Row)
				w.acceptOnly(side, u)
				w.holdWaiting("it is handed in")
				spoilRow(u.Row)
				got, ok := w.j.Next()
				if !ok || !same(got, up(x, 0, 0, 1)) {
					t.Fatalf("%s: %v, %v, want %v", w.name, got, ok, x)
				}
				take(t, taken, "Next", got.Row)
				spoilRow(got.Row)
				w.waits = nil
				w.hold("it is written over")
			}
		}
	}
}

func TestRowsThatAreOne(t *testing.T) { // the rule of memory: changes whose rows have memory in common, of one side and of both
	one := r(1, 1, "a", 1, "b")
	w := watch(t, "rows that are one", 1)
	w.accept(0, up(one, 0, 0, 1), up(one[:1], 0, 1, 2), up(one[1:], 1, 0, 3))
	w.accept(1, up(one, 0, 0, 1), up(one[:3], 0, 2, 2), up(one[1:2], 1, 0, 3), up(one[3:], 2, 0, 4))
	spoilRow(one)
	w.hold("it is written over")
	w.accept(0, up(r(1, "c"), 0, 0, 1))
	w.all()
}

func TestNextIsWrittenOver(t *testing.T) { // the rule of memory: the join, its sides and the other answers tell the same, also where what was told is handed in again
	w := watch(t, "next", 1)
	for _, g := range memoryCalls()[:40] {
		w.do(g)
	}
	w.hold("filled")
	var answers, want []api.Up
	for i := 0; w.j.Len() > 0 && i < 200; i++ {
		first := copied(w.waits[:1])[0]
		u, ok := w.j.Next()
		if !ok || !same(u, first) {
			t.Fatalf("%v, %v, want %v", u, ok, first)
		}
		w.waits = w.waits[1:]
		answers, want = append(answers, u), append(want, first)
		if i < 10 {
			again := api.Up{Row: u.Row, Time: at(50, 50), Diff: 1}
			w.acceptOnly(i%2, again)
		}
		if i%2 == 0 {
			spoilRow(answers[i].Row)
			answers[i] = want[i]
		}
		w.hold("what Next told is written over")
		if !slices.EqualFunc(answers, want, same) {
			t.Fatalf("%s, want %s", told(answers), told(want))
		}
	}
	if len(answers) < 60 {
		t.Fatalf("only %d were told", len(answers))
	}
}

func TestLowerIsWrittenOver(t *testing.T) { // the rule of memory: neither the join nor another answer is changed with it
	w := watch(t, "lower", 1)
	w.accept(0, up(r(1), 0, 0, 1))
	for i := range 9 {
		w.accept(1, up(r(1, i), 3*i, 3*i+2, 1), up(r(1, i), 3*i+1, 3*i+1, 1), up(r(1, i), 3*i+2, 3*i, 1))
		first, second := w.j.Lower(), w.j.Lower()
		want := slices.Clone(second)
		spoilTimes(first)
		if !slices.Equal(second, want) {
			t.Fatalf("%v, want %v", second, want)
		}
		w.hold("one is written over")
		w.advance(1, second...) // what Lower told, handed in
		if !slices.Equal(second, want) {
			t.Fatalf("%v, want %v", second, want)
		}
		spoilTimes(second)
		w.hold("both are written over")
		for len(w.waits) > 0 {
			w.nextOnly()
		}
	}
	w.tells()
}

func TestSinceIsWrittenOver(t *testing.T) { // the rule of memory: what a side tells of its frontier is not the one that is kept
	w := watch(t, "since", 1)
	for side := range 2 {
		w.advance(side, at(0, 3), at(2, 1))
		spoilTimes(w.j.Side(1 - side).Since())
		w.hold("Since is written over")
		w.refuses(side, up(r(1), 0, 0, 1), api.ErrTime)
		w.accept(side, up(r(1), 2, 1, 1))
	}
	w.tells(up(r(1), 2, 1, 1))
}

func TestToldIsHandedInAgain(t *testing.T) { // the rule of memory: what one join told, accepted by another one, is the memory of neither
	a, b := watch(t, "one", 1), watch(t, "another", 1)
	for _, g := range memoryCalls()[:40] {
		a.do(g)
	}
	for i := 0; len(a.waits) > 0; i++ {
		want := copied(a.waits[:1])[0]
		u, ok := a.j.Next()
		a.waits = a.waits[1:]
		if !ok || !same(u, want) {
			t.Fatalf("%v, %v, want %v", u, ok, want)
		}
		if i < 40 {
			b.acceptOnly(i%2, u)
		}
		spoilRow(u.Row)
		a.hold("what it told is written over")
		b.hold("what it was handed is written over")
	}
	b.all()
}

func TestWhatIsGoneIsNotKept(t *testing.T) { // no more is kept than is needed: neither rows that were handed in nor rows that were told
	j, _ := join.New(1)
	var gone []weak.Pointer[api.Val]
	var goneTimes []weak.Pointer[api.Time]
	ask := func(step string) {
		t.Helper()
		runtime.GC()
		runtime.GC()
		for i, p := range gone {
			if p.Value() != nil {
				t.Errorf("%s: row %d is kept", step, i)
			}
		}
		for i, p := range goneTimes {
			if p.Value() != nil {
				t.Errorf("%s: frontier %d is kept", step, i)
			}
		}
	}
	for round := range 3 {
		for i := range 20 {
			u := roomy(up(r(i%3, "x", i), 10*round+5, i, 1)) // the row that is handed in is the caller's alone
			j.Accept(i%2, u)
			gone = append(gone, weak.Make(&u.Row[0]))
		}
		f := roomyTimes(times(at(10*round, 0)))
		j.Advance(round%2, f)
		goneTimes = append(goneTimes, weak.Make(&f[0]))
		ask("accepted")
		for range j.Len() - 5*round {
			u, _ := j.Next()
			gone = append(gone, weak.Make(&u.Row[0]))
		}
		if j.Len() != 5*round {
			t.Errorf("Len %d", j.Len())
		}
		ask("told")
		j.Work(1000)
		ask("worked on")
	}
	runtime.KeepAlive(j)
}

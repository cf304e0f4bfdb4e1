package fold_test

import (
	"fmt"
	"reflect"
	"runtime"
	"slices"
	"testing"
	"unsafe"
	"weak"

	"runnel/api"
	"runnel/fold"
)

// withRoom is the list with spare room behind it, which is filled.
func withRoom[T any](l []T, spare ...T) []T {
	return slices.Clip(append(slices.Clip(slices.Clone(l)), spare...))[:len(l)]
}

// everything is a list with its spare room.
func everything[T any](l []T) []T { return l[:cap(l)] }

// roomy is a change with spare room behind its row, roomyTimes is a list of times with it.
func roomy(u api.Up) api.Up {
	u.Row = withRoom(u.Row, s("spare"), n(77))
	return u
}

func roomyTimes(l []api.Time) []api.Time { return withRoom(l, at(71, 72), at(0, 0)) }

// spoilList writes over what is appended to a list, and over the list itself, spare room too.
func spoilList[T any](l []T, x T) {
	for _, part := range [][]T{append(l, x), everything(l)} {
		for i := range part {
			part[i] = x
		}
	}
}

func spoilRow(l api.Row)      { spoilList(l, s("over")) }
func spoilTimes(l []api.Time) { spoilList(l, at(-83, -84)) }

// spoilUps writes over rows, and over the list in which they stand.
func spoilUps(l []api.Up) {
	for _, u := range l {
		spoilRow(u.Row)
	}
	spoilList(l, up(r("over"), -83, -84, 85))
}

// memoryFold is a fold of each kind, whose rows have a number in the column 2.
func memoryFold(t *testing.T, kind int) *watched {
	t.Helper()
	count := 2 // a column, and how many
	return watch(t, fmt.Sprint("kind ", kind), kind, 1, count, 3)
}

// given is a change, or a frontier.
type given struct {
	u api.Up
	f []api.Time // nil, where it is a change
}

// memoryCalls are changes and frontiers: rows with one key, at several times, of another one each time, some that take back what came; some that are refused.
func memoryCalls() []given {
	var l []given
	for i := range 12 {
		l = append(l,
			given{up(r(1, "a", i%5), i, 1, 1), nil},
			given{up(r(1, "b", 0), i, i, 2), nil},
			given{up(r(1, "a", (i+3)%5), i, 2, -1), nil},
			given{up(r(100+i, "alone", 7), i, 2, 1), nil},
			given{up(r("text", "a", i), i, 1, 1), nil},
			given{up(r(1, "early", 1), -1, 2, 1), nil},
			given{up(r(1, "short"), i, i, 1), nil},
			given{up(r(1, "long", 1, 1), i, i, 1), nil},
			given{up(nil, i, i, 1), nil},
			given{up(r(1, "zero", 1), i, i, 0), nil})
		if i%3 == 2 {
			l = append(l,
				given{api.Up{}, times(at(i-2, 1), at(i-1, 0))},
				given{api.Up{}, times(at(5, 5), at(4, 4))},
				given{api.Up{}, times(at(0, 0), at(-1, 0))},
				given{api.Up{}, times(at(0, 0))})
		}
	}
	return l
}

// do is one of these calls, with spare room behind what is handed in: neither it nor the room is changed. It tells how what was handed in is written over.
func (w *watched) do(g given) (spoil func()) {
	w.t.Helper()
	if g.f != nil {
		f := roomyTimes(g.f)
		before := slices.Clone(everything(f))
		w.advanceOnly(f)
		if !slices.Equal(everything(f), before) {
			w.t.Fatalf("%s: %v was changed to %v", w.name, before, everything(f))
		}
		return func() { spoilTimes(f) }
	}
	u := roomy(g.u)
	before := slices.Clone(everything(u.Row))
	w.acceptOnly(u)
	if !reflect.DeepEqual(everything(u.Row), before) {
		w.t.Fatalf("%s: %v was changed to %v", w.name, before, everything(u.Row))
	}
	return func() { spoilRow(u.Row) }
}

// finish does all that is to do.
func (w *watched) finish() {
	w.t.Helper()
	w.work(1000)
	w.advance()
	w.all()
	w.ask(0, false)
	w.holdMeaning(grid(14))
}

func TestWhatIsHandedInIsLeft(t *testing.T) { // the rule of memory: neither changed nor kept, spare room included
	for kind := range api.Groups {
		w := memoryFold(t, kind)
		var spoils []func()
		for i, g := range memoryCalls() {
			spoils = append(spoils, w.do(g))
			if i%7 == 3 {
				w.workOnly(i)
			}
		}
		w.hold("all is handed in")
		if len(w.todo) < 50 || w.due() < 0 {
			t.Fatalf("%s: only %d are to do", w.name, len(w.todo))
		}
		for _, spoil := range spoils {
			spoil()
		}
		w.hold("what was handed in is written over")
		w.finish()
	}
}

func TestWrittenOverAtOnce(t *testing.T) { // the rule of memory: each behind its call, ahead of the next one
	for kind := range api.Groups {
		w := memoryFold(t, kind)
		for i, g := range memoryCalls() {
			w.do(g)()
			w.hold("it is written over")
			if i%5 == 1 {
				w.work(i % 11)
			}
			if i%3 == 1 {
				w.stepOnly()
				w.hold("Step")
			}
		}
		w.finish()
	}
}

func TestOneRowAgainAndAgain(t *testing.T) { // the rule of memory: a row and a list that the caller fills anew for each call
	w := watch(t, "again", api.GroupTop, 2, 3, 4)
	values, f := make(api.Row, 4), make([]api.Time, 2)
	for i := range 80 {
		for j := range values {
			values[j] = n(i * (j + 1) % 3)
		}
		w.accept(up(values, i/10, i%3, 1+i%2))
		values[i%4] = s("another")
		w.accept(up(values, i/10, i%5, 1))
		if i%10 == 9 {
			f[0], f[1] = at(i/10, 2), at(i/10+1, 0)
			w.advance(f...)
			f[0] = at(i/10+1, 0)
			w.advance(f[:1]...)
			f[0], f[1] = at(999, 999), at(0, 0)
			w.hold("the list is written over")
		}
		if i%3 == 0 {
			w.work(i % 7)
			w.stepOnly()
			w.hold("Step")
		}
	}
	w.finish()
}

func TestKeysOfWhatIsToDo(t *testing.T) { // the rule of memory: the key that is to do is not the row that was handed in
	for _, k := range []struct{ kind, key, cols int }{{api.GroupCount, 1, 2}, {api.GroupCount, 2, 2}, {api.GroupMin, 1, 1}, {api.GroupDistinct, 0, 2}} {
		w := watch(t, fmt.Sprint(k), k.kind, k.key, 0, k.cols)
		u := roomy(up(r("b", "x")[:k.cols], 0, 0, 1))
		w.accept(u)
		spoilRow(u.Row)
		w.accept(up(r("a", "x")[:k.cols], 0, 0, 1), up(r("c", "x")[:k.cols], 0, 0, 1))
		w.advance(at(1, 0))
		for i := range 3 {
			out, did := w.stepOnly()
			if !did || len(out) != 1 || out[0].Row[0].Str != []string{"a", "b", "c"}[i] {
				t.Fatalf("%v: Step %d: %v, %v", k, i, out, did)
			}
		}
		w.none()
	}
}

// places are where the things of lists lie, each of which may be there but once. They keep what was told, so that no memory is told twice only because it came to be free.
type places map[unsafe.Pointer]string

func take[T any](t *testing.T, p places, name string, l []T) {
	t.Helper()
	for i := range everything(l) {
		place := unsafe.Pointer(&everything(l)[i])
		if other, there := p[place]; there {
			t.Fatalf("%s lies where %s does", name, other)
		}
		p[place] = name
	}
}

func takeUps(t *testing.T, p places, name string, l []api.Up) {
	t.Helper()
	take(t, p, name, l)
	for _, u := range l {
		take(t, p, name+", a row", u.Row)
	}
}

// askAll takes all that the fold and its sides tell of what they have.
func askAll(t *testing.T, p places, f *fold.Fold) {
	t.Helper()
	take(t, p, "Lower", f.Lower())
	for side := range 2 {
		take(t, p, "Since", f.Side(side).Since())
		takeUps(t, p, "a side's Ups", f.Side(side).Ups())
		takeUps(t, p, "a side's Run", f.Side(side).Run(r(1)))
	}
}

func TestAnswersAreTheirOwn(t *testing.T) { // the rule of memory: rows and lists, spare room too, of one answer and of several, of a side's, and of what was handed in
	for kind := range api.Groups {
		taken := places{}
		f, _ := fold.New(kind, 1, 2, 3)
		steps := 0
		step := func() {
			t.Helper()
			out, did, _ := f.Step()
			takeUps(t, taken, "Step", out)
			if did {
				steps++
			}
		}
		for i, g := range memoryCalls() {
			if g.f != nil {
				l := roomyTimes(g.f)
				take(t, taken, "a frontier that is handed in", l)
				f.Advance(l)
			} else {
				u := roomy(g.u)
				take(t, taken, "a row that is handed in", u.Row)
				f.Accept(u)
			}
			if i%6 > 0 {
				continue
			}
			askAll(t, taken, f)
			askAll(t, taken, f)
			f.Work(i)
			for range i / 6 {
				step()
			}
			askAll(t, taken, f)
		}
		f.Advance(nil)
		for f.Due() {
			step()
		}
		askAll(t, taken, f)
		if steps < 60 {
			t.Fatalf("kind %d: only %d steps", kind, steps)
		}
	}
}

func TestStepIsWrittenOver(t *testing.T) { // the rule of memory: the fold, its sides and the other answers tell the same
	for kind := range api.Groups {
		w := memoryFold(t, kind)
		var answers, want [][]api.Up
		step := func() {
			t.Helper()
			out, did := w.stepOnly()
			if !did {
				return
			}
			answers, want = append(answers, out), append(want, copied(out))
			if last := len(answers) - 1; last%2 == 0 {
				spoilUps(answers[last])
				answers[last] = want[last]
			}
			w.hold("what Step told is written over")
			for i := range answers {
				if !slices.EqualFunc(answers[i], want[i], same) {
					t.Fatalf("%s: %v, want %v", w.name, answers[i], want[i])
				}
			}
		}
		for i, g := range memoryCalls() {
			w.do(g)
			if i%2 == 0 {
				step()
			}
		}
		w.advance()
		for w.f.Due() {
			step()
		}
		if len(answers) < 60 {
			t.Fatalf("%s: only %d were told", w.name, len(answers))
		}
		w.work(1000)
		w.holdMeaning(grid(14))
	}
}

func TestRowsOfOneStep(t *testing.T) { // the rule of memory: several changes of one Step, one after the other written over: those behind it are left
	w := watch(t, "one step", api.GroupTop, 1, 9, 2)
	for i := range 6 {
		w.accept(up(r(1, i), 0, 0, 2))
	}
	w.advance(at(1, 0))
	out, did := w.stepOnly()
	if !did || len(out) != 5 {
		t.Fatalf("%v, %v", out, did)
	}
	want := copied(out)
	for i := range out {
		spoilRow(out[i].Row)
		if !slices.EqualFunc(out[i+1:], want[i+1:], same) {
			t.Fatalf("number %d is written over, and so are others", i)
		}
		w.hold("it is written over")
	}
	w.accept(up(r(1, 0), 1, 0, -1))
	w.advance(at(2, 0))
	w.step(up(r(1, 0), 1, 0, -1), up(r(1, 4), 1, 0, 1))
}

func TestLowerIsWrittenOver(t *testing.T) { // the rule of memory: neither the fold nor another answer is changed with it
	w := watch(t, "lower", api.GroupDistinct, 0, 0, 1)
	for i := range 9 {
		w.accept(up(r(i), 3*i, 3*i+2, 1), up(r(10+i), 3*i+1, 3*i+1, 1), up(r(20+i), 3*i+2, 3*i, 1))
		first, second := w.f.Lower(), w.f.Lower()
		want := slices.Clone(second)
		spoilTimes(first)
		if len(want) != 3 || !slices.Equal(second, want) {
			t.Fatalf("%v, want %v", second, want)
		}
		w.hold("one is written over")
		w.advance(second...) // what Lower told, handed in
		if !slices.Equal(second, want) {
			t.Fatalf("%v, want %v", second, want)
		}
		spoilTimes(second)
		w.hold("both are written over")
		w.none()
		w.advance(at(3*i+3, 3*i+3))
		w.all()
	}
}

func TestSinceIsWrittenOver(t *testing.T) { // the rule of memory: what a side tells is not what is kept
	w := watch(t, "since", api.GroupCount, 1, 0, 1)
	w.accept(up(r(1), 0, 5, 1))
	w.advance(at(0, 6), at(2, 1))
	for side := range 2 {
		spoilTimes(w.f.Side(side).Since())
		w.hold("Since is written over")
		spoilUps(w.f.Side(side).Ups())
		spoilUps(w.f.Side(side).Run(r(1)))
		w.hold("Ups are written over")
	}
	w.refuses(up(r(1), 0, 0, 1), api.ErrTime)
	w.accept(up(r(1), 2, 1, 1))
	w.finish()
}

func TestToldIsHandedInAgain(t *testing.T) { // the rule of memory: what one fold told, accepted by another one, is the memory of neither
	for kind := range api.Groups {
		a := memoryFold(t, kind)
		for _, g := range memoryCalls()[:60] {
			a.do(g)
		}
		a.advance()
		b := watch(t, "another", api.GroupCount, 1, 0, 3)
		if kind == api.GroupCount || kind == api.GroupSum {
			b = watch(t, "another", api.GroupCount, 1, 0, 2)
		}
		for a.f.Due() {
			out, _ := a.stepOnly()
			for _, u := range out {
				b.accept(u)
			}
			spoilUps(out)
			a.hold("what it told is written over")
			b.hold("what it was handed is written over")
		}
		if len(b.accepted) < 10 {
			t.Fatalf("kind %d: only %d were told", kind, len(b.accepted))
		}
		b.finish()
	}
}

func TestWhatIsGoneIsNotKept(t *testing.T) { // no more is kept than is needed: neither what was handed in nor what was told
	f, _ := fold.New(api.GroupMax, 1, 0, 3)
	var gone []weak.Pointer[api.Val]
	var goneTimes []weak.Pointer[api.Time]
	ask := func(step string) {
		t.Helper()
		runtime.GC()
		runtime.GC()
		for i, p := range gone {
			if p.Value() != nil {
				t.Errorf("%s: row %d is kept", step, i)
			}
		}
		for i, p := range goneTimes {
			if p.Value() != nil {
				t.Errorf("%s: frontier %d is kept", step, i)
			}
		}
	}
	for round := range 3 {
		for i := range 20 {
			u := roomy(up(r(i%3, "x", i), 10*round+5, i, 1)) // the row that is handed in is the caller's alone
			f.Accept(u)
			gone = append(gone, weak.Make(&u.Row[0]))
		}
		l := roomyTimes(times(at(10*round+6, 10)))
		f.Advance(l)
		goneTimes = append(goneTimes, weak.Make(&l[0]))
		lower := f.Lower()
		goneTimes = append(goneTimes, weak.Make(&lower[0]))
		ask("accepted")
		for f.Due() {
			out, _, _ := f.Step()
			for _, u := range out {
				gone = append(gone, weak.Make(&u.Row[0]))
			}
		}
		ask("told")
		f.Work(1000)
		ask("worked on")
	}
	if len(gone) < 90 {
		t.Errorf("only %d rows", len(gone))
	}
	runtime.KeepAlive(f)
}

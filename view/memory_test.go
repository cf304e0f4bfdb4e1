package view_test

import (
	"fmt"
	"slices"
	"testing"
	"unsafe"

	"runnel/api"
	"runnel/view"
)

// withRoom is a list in memory of its own with these things in the spare room behind it.
func withRoom[T any](l []T, behind ...T) []T {
	all := make([]T, 0, len(l)+len(behind))
	all = append(append(all, l...), behind...)
	return all[:len(l)]
}

// spoilList writes over all of a list, spare room too.
func spoilList[T any](l []T, x T) {
	for i := range l[:cap(l)] {
		l[:cap(l)][i] = x
	}
}

var (
	spoilt = api.Val{Kind: 1, Int: -79, Str: "spoilt"}
	gone   = at(-77, -78)
)

// roomy is a note in memory of its own, with spare room that is told from noughts behind each list.
func roomy(n api.Note) api.Note {
	n.Front = withRoom(n.Front, at(-7, -8), at(-9, -10))
	n.Up.Row = withRoom(n.Up.Row, r("spare", 77)...)
	return n
}

// identical: field by field, spare room and the fields that play no part too.
func identical(a, b api.Note) bool {
	return a.Out == b.Out && a.IsUp == b.IsUp && a.Up.Time == b.Up.Time && a.Up.Diff == b.Up.Diff &&
		slices.Equal(a.Up.Row[:cap(a.Up.Row)], b.Up.Row[:cap(b.Up.Row)]) && slices.Equal(a.Front[:cap(a.Front)], b.Front[:cap(b.Front)])
}

// memoryNotes are notes that may come and such as may not, one behind the other.
func memoryNotes() []api.Note {
	x := chance(99)
	var l []api.Note
	names := wrongNotes()
	wrong := make([]string, 0, len(names))
	for name := range names {
		wrong = append(wrong, name)
	}
	slices.Sort(wrong)
	for i, n := range slices.Concat(sample(), x.log(2, 1, 60), notes(upTo(3, rising(300)...), came(3, many(16, spoilt), 500, 500, 3), upTo(3, at(600, 600)))) {
		l = append(l, n, odd(n), names[wrong[i*7%len(wrong)]].note)
	}
	return l
}

var memoryTimes = times(at(0, 0), at(1, 2), at(2, 2), at(2, 9), at(3, last), at(599, 599), at(-1, 0))

func memoryKeys() []api.Row { return []api.Row{r(7), r(0), r("a"), r(spoilt), nil, r(1, 2)} }

func TestWhatIsHandedInIsLeft(t *testing.T) { // the rule of memory: neither changed nor kept, spare room included, also where an error is told
	given, e := view.New(4, 1)
	clean, f := view.New(4, 1)
	if e != api.OK || f != api.OK {
		t.Fatal(e, f)
	}
	for i, n := range memoryNotes() {
		in, before := roomy(n), roomy(n)
		e, f := given.Apply(in), clean.Apply(n)
		if e != f {
			t.Fatalf("Apply: %d, %d", int(e), int(f))
		}
		if !identical(in, before) {
			t.Fatalf("Apply(%s) = %d: it was changed, or its spare room", brief(n), int(e))
		}
		spoilList(in.Front, gone)
		spoilList(in.Up.Row, spoilt)
		if i == 150 || i == 20 {
			for _, l := range [][]api.Time{{at(0, i/10), at(1, i/20)}, {at(0, 0)}, {at(-1, 0)}, {at(3, 3), at(2, 2)}, rising(1025)} {
				in := withRoom(l, at(-5, -6), at(0, 0))
				e, f := given.Forget(in), clean.Forget(l)
				if e != f || !slices.Equal(in[:cap(in)], slices.Concat(l, times(at(-5, -6), at(0, 0)))) {
					t.Fatalf("Forget: %d, %d, %s", int(e), int(f), brief(in[:cap(in)]))
				}
				spoilList(in, gone)
			}
		}
		if i%10 == 0 {
			holdAlike(t, given, clean)
		}
		if i%30 == 0 {
			given.Work(i)
			clean.Work(i)
			holdAlike(t, given, clean)
		}
	}
	for _, key := range memoryKeys() {
		for _, when := range memoryTimes {
			in := withRoom(key, spoilt, spoilt)
			c, e := given.Get(0, in, when)
			if all := slices.Concat(key, api.Row{spoilt, spoilt}); !slices.Equal(in[:cap(in)], all) {
				t.Errorf("Get changed its key %s", brief(in[:cap(in)]))
			}
			spoilList(in, r("written over")[0])
			if want, f := clean.Get(0, key, when); e != f || !sameCounts(c, want) {
				t.Errorf("the key is written over, and so is what was told: %s, want %s", brief(c), brief(want))
			}
		}
	}
	holdAlike(t, given, clean)
}

// holdAlike holds what is told of one view against what is told of another one that got the same calls.
func holdAlike(t *testing.T, a, b *view.View) {
	t.Helper()
	if !sameAll(askAll(a, 4, memoryKeys(), memoryTimes), askAll(b, 4, memoryKeys(), memoryTimes)) {
		t.Fatal("what was handed in is written over, and so is what is told")
	}
	if a.Len() != b.Len() {
		t.Fatalf("Len is %d, of the other one %d", a.Len(), b.Len())
	}
}

// places are where the things of lists lie, each of which may be there but once.
type places map[unsafe.Pointer]string

// take takes the places of a list's things, spare room too.
func take[T any](t *testing.T, p places, name string, l []T) {
	t.Helper()
	for i := range l[:cap(l)] {
		place := unsafe.Pointer(&l[:cap(l)][i])
		if other, there := p[place]; there {
			t.Fatalf("%s lies where %s does", name, other)
		}
		p[place] = name
	}
}

// takeCounts takes those of an answer: its list, and each of its rows.
func takeCounts(t *testing.T, p places, name string, c []api.Count) int {
	t.Helper()
	take(t, p, name, c)
	for i, n := range c[:cap(c)] {
		take(t, p, fmt.Sprintf("row %d of %s", i, name), n.Row)
	}
	return len(c)
}

func TestAnswersAreTheirOwn(t *testing.T) { // the rule of memory: no list, spare room too, is shared with what was handed in or with another answer
	taken := places{} // it keeps what was told, so that no memory is told twice only because it came to be free
	v, e := view.New(4, 1)
	if e != api.OK {
		t.Fatal(e)
	}
	rows := 0
	ask := func(name string) {
		for range 2 {
			a := askAll(v, 4, memoryKeys(), memoryTimes)
			for _, f := range a.fronts {
				take(t, taken, "a front "+name, f)
			}
			for _, c := range slices.Concat(a.there, a.changed) {
				rows += takeCounts(t, taken, "counts "+name, c)
			}
		}
	}
	for i, n := range memoryNotes() {
		in := roomy(n)
		take(t, taken, "a Front", in.Front)
		take(t, taken, "a row", in.Up.Row)
		v.Apply(in)
		if i%40 == 0 {
			ask("behind notes")
		}
	}
	f := withRoom(times(at(0, 2), at(1, 1)), gone)
	take(t, taken, "what is forgotten", f)
	if e := v.Forget(f); e != api.OK {
		t.Fatal(e)
	}
	ask("behind Forget")
	v.Work(1000)
	ask("behind Work")
	if rows < 200 {
		t.Errorf("%d rows were told", rows)
	}
}

func TestOneListManyTimes(t *testing.T) { // the rule of memory: notes that have one row, or one Front, between them
	row, f := r(1, "a"), rising(3)
	taken := places{}
	take(t, taken, "the row", row)
	take(t, taken, "the front", f)
	w := begun(t, 2, 1)
	w.good(came(0, row, 0, 0, 1), came(1, row, 0, 0, 1), came(0, row, 0, 1, 1), upTo(0, f...), upTo(1, f...))
	if e := w.forget(at(0, 0)); e != api.OK {
		t.Fatal(e)
	}
	for out := range 2 {
		told, _ := w.v.Front(out)
		take(t, taken, "a front", told)
		c, _ := w.v.At(out, at(0, 1))
		takeCounts(t, taken, "At", c)
		c, _ = w.v.Get(out, r(1), at(0, 1))
		takeCounts(t, taken, "Get", c)
	}
	if e := w.v.Forget(f); e != api.OK {
		t.Fatal(e)
	}
	for out := range 2 {
		told, _ := w.v.Front(out)
		take(t, taken, "a front behind Forget", told)
	}
}

func TestAnswersWrittenOver(t *testing.T) { // the rule of memory: what is told once more stays as it was
	w := begun(t, sampleOuts, 1)
	w.good(sample()...)
	for _, work := range []int{0, 3, 1000} {
		w.work(work)
		keys := []api.Row{r(7), r(8), r("x")}
		want := askAll(w.v, sampleOuts, keys, grid(11))
		a := askAll(w.v, sampleOuts, keys, grid(11))
		for _, f := range a.fronts {
			f = append(f, gone)
			spoilList(f, gone)
		}
		for _, f := range askAll(w.v, sampleOuts, keys, grid(2)).fronts {
			spoilList(f, gone)
		}
		for _, c := range slices.Concat(a.there, a.changed) {
			for i := range c {
				spoilList(c[i].Row, spoilt)
				c[i].Row = append(c[i].Row, spoilt)
			}
			spoilList(c, api.Count{Row: r("spoilt"), Diff: -5})
		}
		if !sameAll(askAll(w.v, sampleOuts, keys, grid(11)), want) {
			t.Errorf("behind Work(%d): an answer is written over, and so is the next one", work)
		}
		w.hold(grid(4)...)
	}
}

func TestZerosBesideErrors(t *testing.T) { // the rule of the first error: every other result is zero
	w := broken(t)
	for out := -2; out < 4; out++ {
		if f, e := w.v.Front(out); e != api.OK && f != nil {
			t.Errorf("Front: %v beside %d", f, int(e))
		}
		for _, when := range grid(6) {
			for _, key := range memoryKeys() {
				if c, e := w.v.Get(out, key, when); e != api.OK && c != nil {
					t.Errorf("Get: %v beside %d", c, int(e))
				}
			}
			if c, e := w.v.At(out, when); e != api.OK && c != nil {
				t.Errorf("At: %v beside %d", c, int(e))
			}
			if c, e := w.v.Between(out, when, at(0, 1)); e != api.OK && c != nil {
				t.Errorf("Between: %v beside %d", c, int(e))
			}
		}
	}
	for _, fuel := range []int{0, 5, high} {
		if left, e := w.v.Work(fuel); left != 0 || e != api.ErrOver {
			t.Errorf("Work: %d beside %d", left, int(e))
		}
	}
}

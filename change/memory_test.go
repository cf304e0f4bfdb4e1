package change_test

import (
	"bytes"
	"fmt"
	"slices"
	"testing"
	"unsafe"

	"runnel/api"
	"runnel/change"
)

// withRoom is a list with these things in the spare room behind it.
func withRoom[T any](l []T, behind ...T) []T {
	all := make([]T, 0, len(l)+len(behind))
	all = append(append(all, l...), behind...)
	return all[:len(l)]
}

// spoilList writes over all of a list, spare room too.
func spoilList[T any](l []T, x T) {
	for i := range l[:cap(l)] {
		l[:cap(l)][i] = x
	}
}

// roomy are notes in memory of their own, with spare room that is told from noughts behind each list.
func roomy(l []api.Note) []api.Note {
	var out []api.Note
	for _, n := range l {
		n.Front = withRoom(n.Front, pair(-7, -8), pair(-9, -10))
		n.Up.Row = withRoom(n.Up.Row, r("spare", 77)...)
		out = append(out, n)
	}
	return withRoom(out, came(0, r("spare"), 1, 1, 1), upTo(0, pair(0, 0)))
}

// whole are notes with all spare room as a part of the lists, copied.
func whole(l []api.Note) []api.Note {
	var out []api.Note
	for _, n := range l[:cap(l)] {
		n.Front = slices.Clone(n.Front[:cap(n.Front)])
		n.Up.Row = slices.Clone(n.Up.Row[:cap(n.Up.Row)])
		out = append(out, n)
	}
	return out
}

// identical: field by field, with those of values that play no part.
func identical(a, b []api.Note) bool {
	return slices.EqualFunc(a, b, func(x, y api.Note) bool { return same(x, y) && slices.Equal(x.Up.Row, y.Up.Row) })
}

// spoilNotes writes over all lists of notes, spare room too.
func spoilNotes(l []api.Note) {
	for _, n := range l[:cap(l)] {
		spoilList(n.Front, pair(-77, -78))
		spoilList(n.Up.Row, api.Val{Kind: 1, Int: -79, Str: "spoilt"})
	}
	spoilList(l, api.Note{Out: -80})
}

// memoryLogs are logs, and notes that are none.
func memoryLogs() map[string][]api.Note {
	x := chance(99)
	l := map[string][]api.Note{
		"none": nil, "the page's": pageLog(), "sample": sample(), "odd": oddAll(sample()), "mixed": mixed(),
		"tidied to nothing": {came(0, r(1), 0, 0, 1), came(0, r(1), 0, 0, -1)}, "over": {came(0, r(1), 0, 0, high), came(0, r(1), 0, 0, 1), upTo(0)},
		"one out": x.log(1, 50), "many outs": x.log(4, 120), "a great frontier": {upTo(1, rising(1024)...), upTo(1, rising(1024)...)},
		"too many": many(65537, upTo(0, pair(1, 1))),
	}
	for name, n := range edgeNotes() {
		l["edge: "+name] = notes(n, n)
	}
	i := 0
	for name, wrong := range wrongNotes() {
		if i++; i%5 == 0 {
			l["wrong: "+name] = and(sample(), wrong.note)
		}
	}
	return l
}

func sinces() [][]api.Time {
	return [][]api.Time{nil, {pair(0, 0)}, {pair(0, 1), pair(1, 0)}, {pair(50, 50)}, {pair(-1, 0)}, rising(1025)}
}

// answers is all that is told of notes.
type answers struct {
	check, encode, decode api.Errno
	at, back              int
	bytes                 []byte
	notes                 []api.Note
	fronts                [][]api.Time
	counts                [][]api.Count
	tidy                  [][]api.Note
	errors                []api.Errno
}

func ask(l []api.Note, given []byte, since [][]api.Time) (a answers) {
	a.check, a.at = change.Check(4, l)
	a.bytes, a.encode = change.Encode(l)
	a.notes, a.decode, a.back = change.Decode(given)
	for out := -1; out < 5; out++ {
		f, e := change.Front(4, out, l)
		a.fronts, a.errors = append(a.fronts, f), append(a.errors, e)
		for _, t := range times(pair(0, 0), pair(1, 2), pair(3, 1<<40), pair(-1, 0)) {
			c, e := change.At(4, out, l, t)
			a.counts, a.errors = append(a.counts, c), append(a.errors, e)
		}
	}
	for _, s := range since {
		m, e := change.Tidy(4, l, s)
		a.tidy, a.errors = append(a.tidy, m), append(a.errors, e)
	}
	return a
}

// alike: is the same told in both, in the same order?
func alike(a, b answers) bool {
	return a.check == b.check && a.encode == b.encode && a.decode == b.decode && a.at == b.at && a.back == b.back &&
		bytes.Equal(a.bytes, b.bytes) && sameAll(a.notes, b.notes) && slices.Equal(a.errors, b.errors) &&
		slices.EqualFunc(a.fronts, b.fronts, slices.Equal[[]api.Time]) &&
		slices.EqualFunc(a.counts, b.counts, sameCounts) && slices.EqualFunc(a.tidy, b.tidy, sameAll)
}

// roomySinces are sinces in memory of their own, with spare room.
func roomySinces() [][]api.Time {
	var l [][]api.Time
	for _, s := range sinces() {
		l = append(l, withRoom(s, pair(-5, -6), pair(0, 0)))
	}
	return l
}

func TestWhatIsHandedInIsLeft(t *testing.T) { // the rule of memory: neither changed nor kept, spare room included, also where an error is told
	for name, l := range memoryLogs() {
		want := ask(l, askedLog(l), sinces())
		given, sinceGiven, b := roomy(l), roomySinces(), withRoom(askedLog(l), []byte("the spare room")...)
		before, bytesBefore := whole(given), slices.Clone(b[:cap(b)])
		got := ask(given, b, sinceGiven)
		if !identical(whole(given), before) {
			t.Errorf("%s: the notes were changed, or their spare room", name)
		}
		if !bytes.Equal(b[:cap(b)], bytesBefore) {
			t.Errorf("%s: the bytes were changed, or their spare room", name)
		}
		for i, s := range sinceGiven {
			if all := slices.Concat(sinces()[i], times(pair(-5, -6), pair(0, 0))); !slices.Equal(s[:cap(s)], all) {
				t.Errorf("%s: since was changed: %v", name, s[:cap(s)])
			}
			spoilList(s, pair(-71, -72))
		}
		spoilNotes(given)
		spoilList(b, 0x61)
		if !alike(got, want) {
			t.Errorf("%s: what was handed in is written over, and so is what was told", name)
		}
		if again := ask(l, askedLog(l), sinces()); !alike(again, want) {
			t.Errorf("%s: once more something else is told", name)
		}
	}
}

// places are where the things of lists lie, each of which may be there but once.
type places map[unsafe.Pointer]string

// takeList takes the places of a list's things, spare room too.
func takeList[T any](t *testing.T, p places, name string, l []T) {
	t.Helper()
	for i := range l[:cap(l)] {
		place := unsafe.Pointer(&l[:cap(l)][i])
		if other, there := p[place]; there {
			t.Fatalf("%s lies where %s does", name, other)
		}
		p[place] = name
	}
}

func takeNotes(t *testing.T, p places, name string, l []api.Note) {
	t.Helper()
	takeList(t, p, name+": the list", l)
	for i, n := range l[:cap(l)] {
		takeList(t, p, fmt.Sprintf("%s: the front of note %d", name, i), n.Front)
		takeList(t, p, fmt.Sprintf("%s: the row of note %d", name, i), n.Up.Row)
	}
}

func takeAnswers(t *testing.T, p places, name string, a answers) {
	t.Helper()
	takeList(t, p, name+": bytes", a.bytes)
	takeNotes(t, p, name+": decoded", a.notes)
	for i, f := range a.fronts {
		takeList(t, p, fmt.Sprintf("%s: front %d", name, i), f)
	}
	for i, c := range a.counts {
		takeList(t, p, fmt.Sprintf("%s: counts %d", name, i), c)
		for _, count := range c[:cap(c)] {
			takeList(t, p, fmt.Sprintf("%s: a row of counts %d", name, i), count.Row)
		}
	}
	for i, m := range a.tidy {
		takeNotes(t, p, fmt.Sprintf("%s: tidied %d", name, i), m)
	}
}

func TestAnswersAreTheirOwn(t *testing.T) { // the rule of memory: no list, spare room too, is shared with what was handed in or with another answer
	taken := places{} // it keeps what was told, so that no memory is told twice only because it came to be free
	for name, l := range memoryLogs() {
		if len(l) > 1000 {
			continue
		}
		given, since, b := roomy(l), roomySinces(), withRoom(askedLog(l), []byte("and room")...)
		takeNotes(t, taken, name+": given", given)
		takeList(t, taken, name+": the bytes given", b)
		for _, s := range since {
			takeList(t, taken, name+": since", s)
		}
		for range 2 {
			takeAnswers(t, taken, name, ask(given, b, since))
		}
	}
}

func TestListsThatAreOneIn(t *testing.T) { // the rule of memory: notes that have one row, or one Front, between them
	row, f := r(1, "a"), rising(3)
	l := notes(came(0, row, 0, 0, 1), came(1, row, 0, 0, 1), came(0, row, 1, 0, 1), upTo(0, f...), upTo(1, f...), upTo(0, f...), upTo(2, f...), upTo(3, f...))
	taken := places{}
	takeList(t, taken, "the row", row)
	takeList(t, taken, "the front", f)
	for range 2 {
		a := ask(l, askedLog(l), [][]api.Time{{pair(0, 0)}, f})
		if a.tidy[0] == nil || a.tidy[1] == nil {
			t.Fatal(a.errors)
		}
		takeAnswers(t, taken, "an answer", a)
	}
}

func TestFrontsAreTheirOwn(t *testing.T) { // the rule of memory: an out's frontier is written over, and the next answer stays
	for _, l := range [][]api.Note{nil, sample()} {
		for out := range 4 {
			want := slices.Clone(askedFront(l, out))
			f, _ := change.Front(4, out, l)
			spoilList(f, pair(7, 7))
			f = append(f, pair(8, 8))
			holdFront(t, 4, out, l, want, api.OK)
		}
	}
}

func TestDecodedNotesAreTheirOwn(t *testing.T) { // the rule of memory: one note is written over, and the others stay
	l := mixed()
	given := askedLog(l)
	for i := range l {
		m, _, _ := change.Decode(given)
		other, _, _ := change.Decode(given)
		spoilNotes(m[i : i+1 : i+1])
		for j, n := range l {
			if j != i && !same(m[j], n) || !same(other[j], n) {
				t.Errorf("note %d is written over, and so is note %d", i, j)
			}
		}
		if !bytes.Equal(given, askedLog(l)) {
			t.Errorf("note %d is written over, and so are the bytes", i)
		}
	}
}

func TestTheSameTwice(t *testing.T) { // from arguments alone: in the same order, also behind other calls and behind faults
	for round := range 3 {
		for name, l := range memoryLogs() {
			if len(l) > 1000 {
				continue
			}
			first := ask(l, askedLog(l), sinces())
			ask(mixed(), []byte{1, 2}, nil)
			if second := ask(l, askedLog(l), sinces()); !alike(first, second) {
				t.Errorf("%s, round %d: once this, once that", name, round)
			}
		}
	}
}

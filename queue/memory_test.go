package queue_test

import (
	"fmt"
	"reflect"
	"runtime"
	"slices"
	"testing"
	"unsafe"
	"weak"

	"runnel/api"
	"runnel/queue"
)

// withRoom is the list with spare room behind it, which is filled.
func withRoom[T any](l []T, spare ...T) []T {
	return slices.Clip(append(slices.Clip(slices.Clone(l)), spare...))[:len(l)]
}

// all is a list with its spare room.
func all[T any](l []T) []T { return l[:cap(l)] }

func roomyChange(u api.Up) api.Up {
	u.Row = withRoom(u.Row, s("spare"), n(77))
	return u
}

// roomy is a list of changes with spare room behind it and behind each row.
func roomy(l []api.Up) []api.Up {
	var own []api.Up
	for _, u := range l {
		own = append(own, roomyChange(u))
	}
	return withRoom(own, roomyChange(up(r(5), 6, 7, 8)), roomyChange(api.Up{Diff: 9}))
}

// whole is a copy of all that lies in a list of changes, spare room too.
func whole(l []api.Up) []api.Up {
	var own []api.Up
	for _, u := range all(l) {
		u.Row = slices.Clone(all(u.Row))
		own = append(own, u)
	}
	return own
}

// spoilList writes over a list, spare room too, and over what is appended to it.
func spoilList[T any](l []T, x T) {
	for _, part := range [][]T{append(l, x), all(l)} {
		for i := range part {
			part[i] = x
		}
	}
}

func spoil(l []api.Up) {
	for _, u := range all(l) {
		spoilList(u.Row, s("over"))
	}
	spoilList(l, up(r("over"), -83, -84, -85))
}

// memoryLists are what is pushed, one behind the other.
func memoryLists() [][]api.Up {
	var rows []api.Up
	for i, x := range kindsOfRows() {
		rows = append(rows, up(x, i%4, 3-i%4, i), up(x, i, i, -i))
	}
	x := chance(3)
	return [][]api.Up{changes(0, 3), nil, changes(3, 4), rows, changes(4, 9), x.changes(30), changes(9, 10)}
}

func TestWhatIsHandedInIsLeft(t *testing.T) { // the rule of memory: neither changed nor kept, spare room included
	for gone := range 8 {
		w := watch(t, fmt.Sprint(gone, " are gone"), 5)
		w.push(changes(20, 20+gone)...)
		w.pop(gone)
		var given [][]api.Up
		for _, l := range memoryLists() {
			roomed := roomy(l)
			before := whole(roomed)
			w.push(roomed...)
			given = append(given, roomed)
			if !reflect.DeepEqual(whole(roomed), before) {
				t.Fatalf("%v was changed to %v", before, whole(roomed))
			}
			w.popOnly()
		}
		for _, l := range given {
			spoil(l)
			w.hold("what was handed in is written over")
		}
		w.pop(len(w.waits()) + 1)
	}
}

func TestWrittenOverAtOnce(t *testing.T) { // the rule of memory: each list behind its push, ahead of the next one
	w := watch(t, "at once", 5)
	for range 3 {
		for _, l := range memoryLists() {
			roomed := roomy(l)
			w.push(roomed...)
			spoil(roomed)
			w.hold("it is written over")
			w.pop(len(l) / 2)
		}
	}
	w.pop(len(w.waits()) + 1)
}

func TestOneListAgainAndAgain(t *testing.T) { // the rule of memory: a list and a row that the caller fills anew for each push
	w := watch(t, "again", 2)
	l := make([]api.Up, 3)
	values := make(api.Row, 6)
	for i := range 40 {
		for j := range l {
			values[2*j], values[2*j+1] = n(i), n(j)
			l[j] = up(values[2*j:2*j+2:2*j+2+(4-2*j)], i, j, 10*i+j)
		}
		w.push(l[:1+i%3]...)
		w.pop(1)
	}
	w.pop(len(w.waits()) + 1)
}

func TestRefusedListsAreLeft(t *testing.T) { // the rule of memory: also what there is no place for
	w := watch(t, "refused", 2)
	w.push(changes(0, 5)...)
	l := roomy(plain(0, api.MaxQueue))
	l[0].Row, l[7].Row = roomyChange(change(1)).Row, roomyChange(change(2)).Row
	before := whole(l)
	w.refuses(l)
	if !reflect.DeepEqual(whole(l), before) {
		t.Fatal("a refused list was changed")
	}
	spoil(l)
	w.hold("it is written over")
	w.pop(6)
}

// places are where the things of lists lie, each of which may be there but once. They keep what was told, so that no memory is told twice only because it came to be free.
type places map[unsafe.Pointer]string

func take[T any](t *testing.T, p places, name string, l []T) {
	t.Helper()
	for i := range all(l) {
		place := unsafe.Pointer(&all(l)[i])
		if other, there := p[place]; there {
			t.Fatalf("%s lies where %s does", name, other)
		}
		p[place] = name
	}
}

// askAll takes all that the queue tells of what waits.
func askAll(t *testing.T, p places, q *queue.Queue) {
	t.Helper()
	take(t, p, "Lower", q.Lower())
	for i := range q.Len() {
		u, _ := q.Peek(i)
		take(t, p, fmt.Sprint("Peek of ", i), u.Row)
	}
}

func TestAnswersAreTheirOwn(t *testing.T) { // the rule of memory: rows and lists, spare room too, of one answer and of several, and of what was handed in
	taken := places{}
	q, _ := queue.New(4)
	for round := range 3 {
		for _, l := range memoryLists() {
			roomed := roomy(l)
			take(t, taken, "a list that is handed in", roomed)
			for _, u := range all(roomed) {
				take(t, taken, "a row that is handed in", u.Row)
			}
			q.Push(roomed)
			askAll(t, taken, q)
			askAll(t, taken, q)
			for range len(l) / (1 + round) {
				u, _ := q.Pop()
				take(t, taken, "Pop", u.Row)
			}
			askAll(t, taken, q)
		}
	}
	for range q.Len() {
		u, _ := q.Pop()
		take(t, taken, "Pop", u.Row)
	}
}

func TestRowsThatAreOne(t *testing.T) { // the rule of memory: changes of one list, and of two, with rows that have memory in common
	one := r(1, "a", 2, "b")
	l := []api.Up{up(one, 0, 0, 1), up(one, 0, 0, 2), up(one[:2], 0, 1, 3), up(one[1:], 1, 0, 4), up(one[:0], 2, 2, 5)}
	w := watch(t, "rows that are one", 3)
	w.push(l...)
	w.push(l[1:]...)
	w.push(l[:3]...)
	taken := places{}
	take(t, taken, "what is handed in", one)
	askAll(t, taken, w.q)
	for range len(w.waits()) {
		u, _ := w.q.Pop()
		take(t, taken, "Pop", u.Row)
		if want := w.list[w.gone]; !same(u, want) {
			t.Fatalf("%v, want %v", u, want)
		}
		w.gone++
		spoilList(u.Row, s("over"))
		w.hold("what was popped is written over")
	}
}

func TestPeekedIsWrittenOver(t *testing.T) { // the rule of memory: neither the queue nor another answer is changed with it
	w := watch(t, "peeked", 4)
	for _, l := range memoryLists() {
		w.push(l...)
	}
	w.pop(5)
	for i, want := range w.waits() {
		first, _ := w.q.Peek(i)
		second, _ := w.q.Peek(i)
		spoilList(first.Row, s("over"))
		if !same(second, want) {
			t.Fatalf("Peek(%d) twice: one is written over, and the other is %v, want %v", i, second, want)
		}
		w.holdPeek("another answer is written over", i)
		spoilList(second.Row, n(-1))
	}
	w.hold("all that was peeked is written over")
	for range len(w.waits()) {
		peeked, _ := w.q.Peek(0)
		want := w.waits()[0]
		popped, _ := w.q.Pop()
		w.gone++
		spoilList(peeked.Row, s("over"))
		if !same(popped, want) {
			t.Fatalf("what was peeked is written over, and what was popped is %v, want %v", popped, want)
		}
		w.hold("what was peeked is written over")
	}
}

func TestPoppedIsWrittenOver(t *testing.T) { // the rule of memory: also what was peeked ahead of it, and what is pushed to its place
	for _, pushes := range []int{0, 1, 2, 5} {
		w := watch(t, fmt.Sprint("popped, and ", pushes, " pushed"), 4)
		for _, l := range memoryLists() {
			w.push(l...)
		}
		for i := range 100 {
			peeked, some := w.q.Peek(0)
			popped, ok := w.q.Pop()
			if some != ok {
				t.Fatalf("%v, %v", some, ok)
			}
			if !ok {
				break
			}
			want := w.waits()[0]
			w.gone++
			if i < 40 {
				w.push(changes(i, i+pushes)...)
			}
			spoilList(popped.Row, s("over"))
			if !same(peeked, want) {
				t.Fatalf("what was popped is written over, and what was peeked is %v, want %v", peeked, want)
			}
			w.hold("what was popped is written over")
		}
	}
}

func TestLowerIsWrittenOver(t *testing.T) { // the rule of memory: neither the queue nor another answer is changed with it
	w := watch(t, "lower", 4)
	for i := range 9 {
		w.push(up(r(i), i, 9-i, 1), up(r(i), i, 10-i, 1))
		first, second := w.q.Lower(), w.q.Lower()
		want := slices.Clone(second)
		spoilList(first, at(-5, -5))
		if !slices.Equal(second, want) {
			t.Fatalf("%v, want %v", second, want)
		}
		w.hold("one is written over")
		spoilList(second, at(high, high))
		w.hold("both are written over")
	}
	w.pop(19)
}

func TestWhatIsGoneIsNotKept(t *testing.T) { // no more is kept than what waits: a row that was popped is the caller's alone
	q, _ := queue.New(4)
	var gone []weak.Pointer[api.Val]
	next := 0
	for _, k := range []struct{ come, leave int }{{4, 2}, {3, 3}, {9, 7}, {1, 1}, {20, 23}, {3, 2}} { // it grows where the first one stands in the middle
		q.Push(changes(next, next+k.come))
		next += k.come
		for range k.leave {
			u, _ := q.Pop()
			gone = append(gone, weak.Make(&u.Row[0]))
		}
		runtime.GC()
		runtime.GC()
		for i, p := range gone {
			if p.Value() != nil {
				t.Errorf("%d have come, and number %d, which was popped, is kept", next, i)
			}
		}
	}
	for i := range q.Len() {
		if u, ok := q.Peek(i); !ok || !same(u, change(len(gone)+i)) {
			t.Errorf("%v, %v", u, ok)
		}
	}
}

package wire_test

import (
	"bytes"
	"fmt"
	"maps"
	"slices"
	"testing"
	"unsafe"

	"runnel/api"
	"runnel/wire"
)

// withRoom is a list with these things in the spare room behind it.
func withRoom[T any](l []T, behind ...T) []T {
	all := make([]T, 0, len(l)+len(behind))
	all = append(append(all, l...), behind...)
	return all[:len(l)]
}

// all is a list with its spare room, copied.
func all[T any](l []T) []T { return slices.Clone(l[:cap(l)]) }

// spoilList writes over all of a list, spare room too.
func spoilList[T any](l []T, x T) {
	for i := range l[:cap(l)] {
		l[:cap(l)][i] = x
	}
}

// roomy is a command in memory of its own, with spare room that is told from noughts behind each list.
func roomy(c api.Cmd) api.Cmd {
	c.Sheet = withRoom(c.Sheet, []byte("the spare room")...)
	c.Front = withRoom(c.Front, pair(-7, -8), pair(-9, -10))
	c.Up.Row = withRoom(c.Up.Row, r("spare", 77)...)
	return c
}

func roomyAll(l []api.Cmd) []api.Cmd {
	var out []api.Cmd
	for _, c := range l {
		out = append(out, roomy(c))
	}
	return withRoom(out, full(3), full(1))
}

// whole is a command with the spare room of its lists as a part of them, copied.
func whole(c api.Cmd) api.Cmd {
	c.Sheet, c.Front, c.Up.Row = all(c.Sheet), all(c.Front), all(c.Up.Row)
	return c
}

func wholeAll(l []api.Cmd) []api.Cmd {
	var out []api.Cmd
	for _, c := range l[:cap(l)] {
		out = append(out, whole(c))
	}
	return out
}

// identical: field by field, with those of values that play no part.
func identical(a, b api.Cmd) bool { return same(a, b) && slices.Equal(a.Up.Row, b.Up.Row) }

func identicalAll(a, b []api.Cmd) bool { return slices.EqualFunc(a, b, identical) }

// spoilCmd writes over all lists of a command, spare room too.
func spoilCmd(c api.Cmd) {
	spoilList(c.Sheet, 0xee)
	spoilList(c.Front, pair(-77, -78))
	spoilList(c.Up.Row, api.Val{Kind: 1, Int: -79, Str: "spoilt"})
}

func spoilAll(l []api.Cmd) {
	for _, c := range l[:cap(l)] {
		spoilCmd(c)
	}
	spoilList(l, api.Cmd{Do: 5, Node: -80})
}

// memoryCmds are commands of all kinds, such as may not be told among them.
func memoryCmds() []api.Cmd {
	l := each()
	for _, name := range slices.Sorted(maps.Keys(edges())) {
		l = append(l, edges()[name])
	}
	for _, name := range slices.Sorted(maps.Keys(wrongCmds())) {
		l = append(l, wrongCmds()[name].cmd)
	}
	return l
}

func TestCommandsHandedInAreLeft(t *testing.T) { // the rule of memory: neither changed nor kept, spare room included
	for i, c := range memoryCmds() {
		given := roomy(c)
		before := whole(given)
		plain, e := wire.Plain(given), wire.Check(given)
		b, f := wire.Put(nil, given)
		l, g := wire.Encode([]api.Cmd{given})
		front := wire.PutFront(nil, given.Front)
		if !identical(whole(given), before) {
			t.Errorf("command %d was changed", i)
		}
		if want := askedFault(c); e != want || f != want || g != want {
			t.Errorf("command %d with spare room: %d, %d, %d", i, e, f, g)
		}
		spoilCmd(given)
		if !same(plain, askedPlain(c)) {
			t.Errorf("command %d: what was handed in is written over, and so is what is plain: %s", i, brief(plain))
		}
		if want := askedBytes(c); e == api.OK && (!bytes.Equal(b, want) || !bytes.Equal(l, join([]byte{1}, want))) {
			t.Errorf("command %d: what was handed in is written over, and so are its bytes", i)
		}
		if !bytes.Equal(front, askedFront(c.Front)) {
			t.Errorf("command %d: what was handed in is written over, and so are its times' bytes", i)
		}
	}
}

func TestListsHandedInAreLeft(t *testing.T) { // the rule of memory: also where an error is told
	for name, l := range map[string][]api.Cmd{"none": nil, "each": each(), "wrong ones": memoryCmds(), "too many": many(4097, full(1))} {
		given := roomyAll(l)
		before := wholeAll(given)
		b, e := wire.Encode(given)
		if !identicalAll(wholeAll(given), before) {
			t.Errorf("%s: the list was changed", name)
		}
		spoilAll(given)
		if e == api.OK && !bytes.Equal(b, askedList(l)) {
			t.Errorf("%s: the list is written over, and so are its bytes", name)
		}
	}
}

func TestBytesAheadAreLeft(t *testing.T) { // P26.2: b with spare room behind it: that room stays as it was
	for i, c := range memoryCmds() {
		for _, ahead := range [][]byte{nil, {0}, []byte("ahead"), make([]byte, 300)} {
			given := withRoom(ahead, bytes.Repeat([]byte("the room"), 40)...)
			before := all(given)
			b, e := wire.Put(given, c)
			front := wire.PutFront(given, c.Front)
			if !bytes.Equal(all(given), before) {
				t.Fatalf("command %d: the bytes ahead, or their spare room, were changed", i)
			}
			other, _ := wire.Put(given, poll(77))
			spoilList(given, 0xdd)
			if e == api.OK && !bytes.Equal(b, join(ahead, askedBytes(c))) || !bytes.Equal(front, join(ahead, askedFront(c.Front))) {
				t.Fatalf("command %d: the bytes ahead are written over, and so is what was put behind them", i)
			}
			if !bytes.Equal(other, join(ahead, askedBytes(poll(77)))) {
				t.Fatalf("command %d: another command behind the same bytes: %s", i, short(other))
			}
		}
	}
}

func TestBytesHandedInAreLeft(t *testing.T) { // P26.2, P26.3: written over behind the call, the command's Sheet, rows and Front stay
	for i, c := range memoryCmds() {
		one := askedBytes(c)
		good := askedFault(c) == api.OK
		given := withRoom(one, 6, 0, 6, 0)
		list := withRoom(join([]byte{2}, one, one), 6, 0)
		front := withRoom(askedFront(c.Front), 1, 2)
		before, listBefore, frontBefore := all(given), all(list), all(front)
		got, _, _ := wire.Get(given, 0)
		l, _, _ := wire.Decode(list)
		f, _, e := wire.GetFront(front, 0)
		if !bytes.Equal(all(given), before) || !bytes.Equal(all(list), listBefore) || !bytes.Equal(all(front), frontBefore) {
			t.Errorf("the bytes of command %d were changed", i)
		}
		spoilList(given, 0x61)
		spoilList(list, 0x61)
		spoilList(front, 0x61)
		plain := askedPlain(c)
		if good && !same(got, plain) {
			t.Errorf("command %d: the bytes are written over, and so is what was got: %s", i, brief(got))
		}
		if good && !sameAll(l, []api.Cmd{plain, plain}) {
			t.Errorf("command %d: the bytes are written over, and so is what was decoded: %s", i, brief(l))
		}
		if e == api.OK && !slices.Equal(f, c.Front) {
			t.Errorf("command %d: the bytes are written over, and so are the times: %v", i, f)
		}
	}
}

// places are where the things of lists lie, each of which may be there but once.
type places map[unsafe.Pointer]string

// takeList takes the places of a list's things, spare room too.
func takeList[T any](t *testing.T, p places, name string, l []T) {
	t.Helper()
	for i := range l[:cap(l)] {
		place := unsafe.Pointer(&l[:cap(l)][i])
		if other, there := p[place]; there {
			t.Fatalf("%s lies where %s does", name, other)
		}
		p[place] = name
	}
}

// takeCmd takes the places of all that lies in a command's lists.
func takeCmd(t *testing.T, p places, name string, c api.Cmd) {
	t.Helper()
	takeList(t, p, name+": sheet", c.Sheet)
	takeList(t, p, name+": front", c.Front)
	takeList(t, p, name+": row", c.Up.Row)
}

func takeAll(t *testing.T, p places, name string, l []api.Cmd) {
	t.Helper()
	takeList(t, p, name+": the list", l)
	for i, c := range l[:cap(l)] {
		takeCmd(t, p, fmt.Sprintf("%s: command %d", name, i), c)
	}
}

func TestAnswersAreTheirOwn(t *testing.T) { // the rule of memory: no list, spare room too, is shared with what was handed in or with another answer
	taken := places{} // it keeps what was told, so that no memory is told twice only because it came to be free
	for i, c := range memoryCmds() {
		if max(len(c.Sheet), len(c.Front)) > 1000 {
			continue
		}
		given := roomy(c)
		takeCmd(t, taken, fmt.Sprint("command ", i), given)
		ahead := withRoom([]byte("ahead"), []byte("and room")...)
		takeList(t, taken, fmt.Sprint("the bytes ahead of command ", i), ahead)
		for round := range 2 {
			name := fmt.Sprintf("command %d, answer %d", i, round)
			takeCmd(t, taken, name+", plain", wire.Plain(given))
			b, e := wire.Put(ahead, given)
			takeList(t, taken, name+", its bytes", b)
			front := wire.PutFront(ahead, given.Front)
			takeList(t, taken, name+", its times' bytes", front)
			l, _ := wire.Encode([]api.Cmd{given, given})
			takeList(t, taken, name+", its list's bytes", l)
			if e != api.OK {
				continue
			}
			for range 2 {
				got, _, _ := wire.Get(b, len(ahead))
				takeCmd(t, taken, name+", got", got)
				f, _, _ := wire.GetFront(front, len(ahead))
				takeList(t, taken, name+", its times", f)
				m, _, _ := wire.Decode(l)
				if len(m) != 2 {
					t.Fatal(name, len(m))
				}
				takeAll(t, taken, name+", decoded", m)
			}
		}
	}
}

func TestPlainIsItsOwn(t *testing.T) { // the rule of memory: Plain's Sheet, Front and Row are written over, and the command stays
	for do := range 7 {
		given := roomy(full(do))
		before := whole(given)
		first, second := wire.Plain(given), wire.Plain(given)
		again := wire.Plain(first)
		spoilCmd(first)
		first.Sheet = append(first.Sheet, 1, 2)
		first.Front = append(first.Front, pair(1, 2))
		first.Up.Row = append(first.Up.Row, r(1)...)
		spoilCmd(first)
		if !identical(whole(given), before) || !same(second, askedPlain(full(do))) || !same(again, askedPlain(full(do))) {
			t.Errorf("command %d: what is plain is written over, and so is another one", do)
		}
	}
}

func TestDecodedCommandsAreTheirOwn(t *testing.T) { // the rule of memory: one command of a Decode is written over, and the others stay
	l := append(each(), each()...)
	given := askedList(l)
	for i := range l {
		m, _, _ := wire.Decode(given)
		other, _, _ := wire.Decode(given)
		spoilCmd(m[i])
		m[i].Sheet = append(m[i].Sheet, 9)
		m[i].Front = append(m[i].Front, pair(9, 9))
		m[i].Up.Row = append(m[i].Up.Row, r(9)...)
		for j, c := range l {
			if j != i && !same(m[j], askedPlain(c)) || !same(other[j], askedPlain(c)) {
				t.Errorf("command %d is written over, and so is command %d", i, j)
			}
		}
		if !bytes.Equal(given, askedList(l)) {
			t.Errorf("command %d is written over, and so are the bytes", i)
		}
	}
}

func TestListsThatAreOneIn(t *testing.T) { // the rule of memory: commands that have one list between them
	sheet, front, row := []byte{1, 2, 3}, rising(3), r(1, "a")
	c := api.Cmd{Up: up(row, 1, 2, 3), Front: front, Sheet: sheet}
	var l []api.Cmd
	for do := range 7 {
		c.Do = do
		l = append(l, c, c)
	}
	b, e := wire.Encode(l)
	if e != api.OK || !bytes.Equal(b, askedList(l)) {
		t.Fatal(short(b), e)
	}
	m, _, _ := wire.Decode(b)
	taken := places{}
	takeAll(t, taken, "what is decoded", m)
	takeList(t, taken, "the sheet", sheet)
	takeList(t, taken, "the front", front)
	takeList(t, taken, "the row", row)
}

func TestAnswersHangOnArgumentsAlone(t *testing.T) { // also behind other commands, and behind faults
	tell := func() (l []string) {
		for _, c := range memoryCmds() {
			b, e := wire.Put(nil, c)
			got, next, f := wire.Get(askedBytes(c), 0)
			m, g, at := wire.Decode(join([]byte{1}, askedBytes(c)))
			l = append(l, fmt.Sprint(wire.Check(c), e, short(b), brief(wire.Plain(c)), brief(got), next, f, brief(m), g, at))
		}
		return l
	}
	first := tell()
	for range 2 {
		for i, s := range tell() {
			if s != first[i] {
				t.Errorf("answer %d: once %.300s, then %.300s", i, first[i], s)
			}
		}
	}
}

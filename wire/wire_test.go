package wire_test

import (
	"bytes"
	"fmt"
	"slices"
	"strings"
	"testing"

	"runnel/api"
	"runnel/wire"
)

func TestThePage(t *testing.T) { // P26.2: the page's example
	holdTold(t, "the page's", api.Cmd{Do: api.CmdStep, Node: 2, Fuel: 5}, []byte{0x03, 0x04, 0x0a})
}

func TestToldByHand(t *testing.T) { // P26.1, P26.2: byte by byte
	for _, c := range []struct {
		name string
		cmd  api.Cmd
		want string
	}{
		{"install", install([]byte{1, 2}), "00 02 01 02"},
		{"install of nothing", install(nil), "00 00"},
		{"install of 128 bytes", install(many(128, byte(7))), "00 8100 " + strings.Repeat("07", 128)},
		{"insert", insert(1, up(r(-1), 1, 2, -3)), "01 02 01 00 01 02 04 05"},
		{"insert of a text", insert(-1, up(r("ab", 3), -1, 64, 300)), "01 01 02 01 02 6162 00 06 01 8100 8458"},
		{"insert of no value", insert(0, up(nil, 0, 0, 1)), "01 00 00 00 00 02"},
		{"advance", advance(3, pair(4, 0), pair(0, 5)), "02 06 02 08 00 00 0a"},
		{"advance to nothing", advance(3), "02 06 00"},
		{"step", step(-2, 63), "03 03 7e"},
		{"compact", compact(64, pair(1, -1)), "04 8100 01 02 01"},
		{"peek", peek(0, pair(0, 7)), "05 00 00 0e"},
		{"poll", poll(3), "06 06"},
		{"poll of the least", poll(low), "06 81ffffffffffffffff7f"},
		{"poll of the greatest", poll(high), "06 81ffffffffffffffff7e"},
		{"all set: install", full(0), "00 03 10 11 12"},
		{"all set: insert", full(1), "01 0e 02 00 0a 01 01 61 10 12 13"},
		{"all set: advance", full(2), "02 0e 02 16 18 1a 1c"},
		{"all set: step", full(3), "03 0e 1e"},
		{"all set: compact", full(4), "04 0e 02 16 18 1a 1c"},
		{"all set: peek", full(5), "05 0e 10 12"},
		{"all set: poll", full(6), "06 0e"},
	} {
		holdTold(t, c.name, c.cmd, fromHex(c.want))
	}
}

func TestPlainByHand(t *testing.T) { // P26.1: one field after the other
	u := up(r(5, "a"), 8, 9, -10)
	for do, want := range []api.Cmd{
		{Do: api.CmdInstall, Sheet: []byte{16, 17, 18}},
		{Do: api.CmdInsert, Node: 7, Up: u},
		{Do: api.CmdAdvance, Node: 7, Front: times(pair(11, 12), pair(13, 14))},
		{Do: api.CmdStep, Node: 7, Fuel: 15},
		{Do: api.CmdCompact, Node: 7, Front: times(pair(11, 12), pair(13, 14))},
		{Do: api.CmdPeek, Node: 7, Up: api.Up{Time: pair(8, 9)}},
		{Do: api.CmdPoll, Node: 7},
	} {
		if got := wire.Plain(full(do)); !same(got, want) {
			t.Errorf("Plain of %d: %s, want %s", do, brief(got), brief(want))
		}
		if got := wire.Plain(want); !same(got, want) {
			t.Errorf("Plain of what is plain: %s, want %s", brief(got), brief(want))
		}
	}
}

func TestPlainOfWhatMayNotBe(t *testing.T) { // P26.1: Plain asks nothing of what it keeps
	for do := range 7 {
		if c := overfull(do); !same(wire.Plain(c), askedPlain(c)) {
			t.Errorf("Plain of an overfull %d: %s", do, brief(wire.Plain(c)))
		}
	}
}

func TestEdges(t *testing.T) { // P26.1 to P26.3: each limit is itself allowed, and fields that are not used play no part
	for name, c := range edges() {
		holdTold(t, name, c, askedBytes(c))
	}
}

func TestFieldsThatAreNotUsed(t *testing.T) { // P26.1, P26.2: whatever is in them, the same bytes and no error
	for do := range 7 {
		plain := askedPlain(full(do))
		want := askedBytes(plain)
		odd := overfull(do)
		for _, name := range askedFields(do) {
			switch name {
			case "Sheet":
				odd.Sheet = plain.Sheet
			case "Node":
				odd.Node = plain.Node
			case "Fuel":
				odd.Fuel = plain.Fuel
			case "Row":
				odd.Up.Row = plain.Up.Row
			case "Time":
				odd.Up.Time = plain.Up.Time
			case "Diff":
				odd.Up.Diff = plain.Up.Diff
			case "Front":
				odd.Front = plain.Front
			}
		}
		holdTold(t, fmt.Sprint("odd: ", do), odd, want)
		holdTold(t, fmt.Sprint("plain: ", do), plain, want)
	}
}

func TestLeastAndGreatestNumbers(t *testing.T) { // P26.2: in each field that is a number, nothing is asked of it
	for _, x := range []int{low, low + 1, -1 << 62, -1 << 40, -65, -64, -63, -2, -1, 0, 1, 62, 63, 64, 8191, 8192, 1 << 40, 1<<40 + 1, 1<<62 - 1, 1 << 62, high - 1, high} {
		for do := range 7 {
			c := full(do)
			for i := range numbersOf(&c) {
				c := full(do)
				*numbersOf(&c)[i] = x
				holdTold(t, fmt.Sprintf("%d at the number %d of %d", x, i, do), c, askedBytes(c))
			}
			for _, place := range numbersOf(&c) {
				*place = x
			}
			c.Up.Row = r(x, "a", x)
			holdTold(t, fmt.Sprintf("%d everywhere in %d", x, do), c, askedBytes(c))
		}
	}
}

func TestEveryLengthOfAFront(t *testing.T) { // P26.1, P26.2: from no time to MaxGiven
	for count := range 17 {
		l := rising(count)
		holdTold(t, fmt.Sprint("advance of ", count), advance(2, l...), askedBytes(advance(2, l...)))
		holdTold(t, fmt.Sprint("compact of ", count), compact(2, l...), askedBytes(compact(2, l...)))
		b := wire.PutFront([]byte("ahead"), l)
		if !bytes.Equal(b, join([]byte("ahead"), askedFront(l))) {
			t.Errorf("PutFront of %d: %s", count, short(b))
		}
		if f, next, e := wire.GetFront(append(b, "behind"...), 5); e != api.OK || next != len(b) || !slices.Equal(f, l) {
			t.Errorf("GetFront of %d: %v, %d, %d", count, f, next, e)
		}
	}
}

func TestEveryLengthOfARow(t *testing.T) { // P26.1, P26.2: from no value to MaxCols
	for count := range 17 {
		for _, v := range []any{-3, "ab", ""} {
			c := insert(count, up(r(many(count, v)...), 1, 2, 3))
			holdTold(t, fmt.Sprintf("a row of %d times %v", count, v), c, askedBytes(c))
		}
	}
}

func TestPutFrontOfAny(t *testing.T) { // P26.2: nothing is asked of times, nor of how many there are
	for name, l := range map[string][]api.Time{
		"none":          nil,
		"empty":         {},
		"ends":          {pair(low, high), pair(high, low)},
		"not in order":  {pair(3, 3), pair(2, 2), pair(3, 3)},
		"17":            rising(17),
		"127":           rising(127),
		"128":           rising(128),
		"very many":     rising(5000),
		"one, 16 times": many(16, pair(-1, -1)),
	} {
		for _, ahead := range [][]byte{nil, {}, {0}, {0x80}, []byte("ahead")} {
			if got, want := wire.PutFront(ahead, l), join(ahead, askedFront(l)); !bytes.Equal(got, want) {
				t.Errorf("%s behind %x: %s, want %s", name, ahead, short(got), short(want))
			}
		}
	}
}

// surroundings are bytes that stand ahead of others, or behind.
func surroundings() [][]byte {
	return [][]byte{nil, {0}, {0x80}, {0xff, 0xff}, {7}, {3, 4, 10}, []byte("some text")}
}

func TestAheadAndBehind(t *testing.T) { // P26.2: whatever stands ahead and behind
	for name, c := range edges() {
		plain, b := askedPlain(c), askedBytes(c)
		front := askedFront(plain.Front)
		for _, ahead := range surroundings() {
			if got, e := wire.Put(ahead, c); e != api.OK || !bytes.Equal(got, join(ahead, b)) {
				t.Errorf("%s behind %x: %s, %d", name, ahead, short(got), e)
			}
			for _, behind := range surroundings() {
				holdGot(t, name, join(ahead, b, behind), len(ahead), plain, len(ahead)+len(b))
				if f, next, e := wire.GetFront(join(ahead, front, behind), len(ahead)); e != api.OK || next != len(ahead)+len(front) || !slices.Equal(f, plain.Front) {
					t.Errorf("%s: GetFront between %x and %x: %v, %d, %d", name, ahead, behind, f, next, e)
				}
			}
		}
	}
}

func TestOneBehindTheOther(t *testing.T) { // P26.2: from place to place
	l := append(each(), insert(0, up(nil, 0, 0, 0)), install(nil), advance(0))
	var b []byte
	var e api.Errno
	for _, c := range l {
		if b, e = wire.Put(b, c); e != api.OK {
			t.Fatal(e)
		}
	}
	at := 0
	for i, c := range l {
		got, next, e := wire.Get(b, at)
		if e != api.OK || next != at+len(askedBytes(c)) || !same(got, askedPlain(c)) {
			t.Errorf("command %d at %d: %s, %d, %d", i, at, brief(got), next, e)
		}
		at = next
	}
	if at != len(b) {
		t.Error(at, len(b))
	}
	holdNone(t, "behind all", b, at, api.ErrForm)
}

func TestKnownList(t *testing.T) { // P26.3: each command once, byte by byte
	l := []api.Cmd{install([]byte{1, 2}), insert(1, up(r(-1), 1, 2, -3)), advance(0, pair(4, 0)), step(2, 5), compact(1), peek(0, pair(0, 7)), poll(3)}
	want := fromHex("07  00 02 01 02  01 02 01 00 01 02 04 05  02 00 01 08 00  03 04 0a  04 02 00  05 00 00 0e  06 06")
	if b, e := wire.Encode(l); e != api.OK || !bytes.Equal(b, want) {
		t.Errorf("Encode: %x, %d", b, e)
	}
	if m, e, at := wire.Decode(want); e != api.OK || at != len(want) || !sameAll(m, l) {
		t.Errorf("Decode: %s, %d, %d", brief(m), e, at)
	}
}

func TestListOfNone(t *testing.T) { // P26.3: the one byte 0
	for _, l := range [][]api.Cmd{nil, {}} {
		if b, e := wire.Encode(l); e != api.OK || !bytes.Equal(b, []byte{0}) {
			t.Errorf("Encode of none: %x, %d", b, e)
		}
	}
	if l, e, at := wire.Decode([]byte{0}); e != api.OK || at != 1 || len(l) != 0 {
		t.Errorf("Decode of 00: %s, %d, %d", brief(l), e, at)
	}
}

// holdListTold holds commands against their bytes, both ways.
func holdListTold(t *testing.T, name string, l []api.Cmd) {
	t.Helper()
	want := askedList(l)
	b, e := wire.Encode(l)
	if e != api.OK || !bytes.Equal(b, want) {
		t.Errorf("%s: Encode: %s, %d, want %s", name, short(b), e, short(want))
	}
	var plain []api.Cmd
	for _, c := range l {
		plain = append(plain, wire.Plain(c))
	}
	if m, e, at := wire.Decode(want); e != api.OK || at != len(want) || !sameAll(m, plain) {
		t.Errorf("%s: Decode: %s, %d, %d", name, brief(m), e, at)
	}
}

func TestLists(t *testing.T) { // P26.3, P26.4: of one command to MaxCmds
	for _, count := range []int{1, 2, 127, 128, 129, 4095, 4096} {
		var l []api.Cmd
		for i := range count {
			c := full(i % 7)
			c.Node = i
			l = append(l, c)
		}
		holdListTold(t, fmt.Sprint(count, " commands"), l)
	}
	holdListTold(t, "MaxCmds polls", many(4096, poll(0)))
	var l []api.Cmd
	for _, c := range edges() {
		l = append(l, c)
	}
	holdListTold(t, "all edges", l)
	holdListTold(t, "a hundred of the longest", many(100, install(many(65536, byte(9)))))
}

package wire_test

import (
	"bytes"
	"fmt"
	"maps"
	"slices"
	"strings"
	"testing"

	"runnel/api"
	"runnel/wire"
)

func TestWrongCommands(t *testing.T) { // P26.1 to P26.3: no bytes, and the error that the chapter names first
	for name, wrong := range wrongCmds() {
		holdWrong(t, name, wrong.cmd, wrong.want)
	}
}

func TestNoSuchCommand(t *testing.T) { // P26.1: Plain tells Do alone
	for _, do := range doesThatAreNone() {
		for _, c := range []api.Cmd{full(do), overfull(do), {Do: do}} {
			if got := wire.Plain(c); !same(got, api.Cmd{Do: do}) {
				t.Errorf("Plain of %d: %s", do, brief(got))
			}
			holdWrong(t, fmt.Sprint("no command: ", do), c, api.ErrKind)
		}
	}
}

func TestWrongRowsOfOthers(t *testing.T) { // P26.1: a row is asked of insert alone, a Sheet of install alone, a Front of advance and compact alone
	for do := range 7 {
		for name, wrong := range wrongRows() {
			c := full(do)
			c.Up.Row = wrong.row
			want := api.OK
			if do == api.CmdInsert {
				want = wrong.want
			}
			if e := hold(t, c); e != want {
				t.Errorf("%s of %d: %d", name, do, e)
			}
		}
		c := full(do)
		c.Sheet = make([]byte, 65537)
		if e := hold(t, c); (e == api.ErrLong) != (do == 0) {
			t.Errorf("a long sheet of %d: %d", do, e)
		}
		c = full(do)
		c.Front = rising(17)
		if e := hold(t, c); (e == api.ErrMany) != (do == 2 || do == 4) {
			t.Errorf("17 times of %d: %d", do, e)
		}
	}
}

func TestTheFirstErrorOfSeveral(t *testing.T) { // P26.3: of the first command that has one
	good := each()
	for name, a := range wrongCmds() {
		for other, b := range wrongCmds() {
			for _, l := range [][]api.Cmd{
				{a.cmd, b.cmd},
				{good[0], a.cmd, good[1], b.cmd},
				append(slices.Clone(good), a.cmd, b.cmd, a.cmd),
			} {
				if told, e := wire.Encode(l); e != a.want || len(told) != 0 {
					t.Fatalf("%s, then %s: %s, %d, want %d", name, other, short(told), e, a.want)
				}
			}
		}
	}
}

func TestTheLastOfMany(t *testing.T) { // P26.3: also the command at the very end
	for name, wrong := range wrongCmds() {
		l := many(4096, poll(0))
		l[4095] = wrong.cmd
		if b, e := wire.Encode(l); e != wrong.want || len(b) != 0 {
			t.Errorf("%s: %s, %d", name, short(b), e)
		}
	}
}

func TestTooManyCommands(t *testing.T) { // P26.3: asked ahead of each command
	for _, count := range []int{4097, 4098, 8192, 100000} {
		if b, e := wire.Encode(many(count, poll(1))); e != api.ErrMany || len(b) != 0 {
			t.Errorf("%d commands: %s, %d", count, short(b), e)
		}
	}
	for name, wrong := range wrongCmds() {
		for _, at := range []int{0, 2000, 4096} {
			l := many(4097, poll(1))
			l[at] = wrong.cmd
			if b, e := wire.Encode(l); e != api.ErrMany || len(b) != 0 {
				t.Errorf("%s at %d of 4097: %s, %d", name, at, short(b), e)
			}
		}
	}
}

func TestPlaces(t *testing.T) { // P26.2: at is from 0 to len(b), and at len(b) there is nothing
	for _, b := range [][]byte{nil, {}, {0}, {6, 0}, {3, 4, 10}, askedBytes(full(1)), askedFront(rising(4))} {
		given := withRoom(b, 6, 0, 6, 0, 0, 0)
		for _, at := range []int{low, low + 1, -len(b) - 1, -2, -1, len(b) + 1, len(b) + 2, high - 1, high} {
			for _, of := range [][]byte{b, given} {
				holdNone(t, "no place", of, at, api.ErrRange)
				holdNoFront(t, "no place", of, at, api.ErrRange)
			}
		}
		for _, of := range [][]byte{b, given} {
			holdNone(t, "the end", of, len(b), api.ErrForm)
			holdNoFront(t, "the end", of, len(b), api.ErrForm)
			for at := range of {
				holdBytes(t, of, at)
			}
		}
	}
}

func TestFirstBytes(t *testing.T) { // P26.2: from 7 to 255 there is no command, whatever comes behind
	for x := range 256 {
		for _, behind := range append(surroundings(), make([]byte, 100), askedBytes(full(1))[1:]) {
			b := join([]byte{byte(x)}, behind)
			if x >= 7 {
				holdNone(t, "no command", b, 0, api.ErrForm)
				holdNoList(t, "no command", join([]byte{1}, b), 1)
			}
			holdBytes(t, b, 0)
		}
	}
}

// cuts are places at which bytes are cut short: all of them, if there are few.
func cuts(b []byte) []int {
	var l []int
	for i := range b {
		if i < 300 || i > len(b)-50 || i%977 == 0 {
			l = append(l, i)
		}
	}
	return l
}

func TestCutShort(t *testing.T) { // P26.2: every command, at each place, also where the rest is spare room
	for name, c := range edges() {
		b := askedBytes(c)
		for _, i := range cuts(b) {
			holdNone(t, name+" cut short", slices.Clone(b[:i]), 0, api.ErrForm)
			holdNone(t, name+" with the rest as spare room", b[:i], 0, api.ErrForm)
			holdNone(t, name+" behind others", join([]byte("ahead"), b[:i]), 5, api.ErrForm)
		}
		f := askedFront(c.Front)
		for _, i := range cuts(f) {
			if len(c.Front) <= 16 {
				holdNoFront(t, name+": its front cut short", slices.Clone(f[:i]), 0, api.ErrForm)
				holdNoFront(t, name+": its front, the rest as spare room", f[:i], 0, api.ErrForm)
			}
		}
	}
}

// pieces are the numbers of a command's bytes, and what stands between them.
func pieces(c api.Cmd) (l [][]byte, isNumber []bool) {
	add := func(b []byte, number bool) {
		l, isNumber = append(l, b), append(isNumber, number)
	}
	addTime := func(t api.Time) {
		add(askedInt(t.Epoch), true)
		add(askedInt(t.Round), true)
	}
	add([]byte{byte(c.Do)}, false)
	for _, name := range askedFields(c.Do) {
		switch name {
		case "Sheet":
			add(askedCount(len(c.Sheet)), true)
			add(c.Sheet, false)
		case "Row":
			add(askedCount(len(c.Up.Row)), true)
			for _, v := range c.Up.Row {
				add([]byte{byte(v.Kind)}, false)
				if v.Kind == 1 {
					add(askedCount(len(v.Str)), true)
					add([]byte(v.Str), false)
				} else {
					add(askedInt(v.Int), true)
				}
			}
		case "Time":
			addTime(c.Up.Time)
		case "Front":
			add(askedCount(len(c.Front)), true)
			for _, t := range c.Front {
				addTime(t)
			}
		default:
			add(askedPart(c, name), true)
		}
	}
	return l, isNumber
}

// noNumbers are bytes that are no number: noughts ahead of one, or above what there is.
func noNumbers(b []byte) [][]byte {
	return [][]byte{
		join([]byte{0x80}, b),
		join([]byte{0x80, 0x80}, b),
		fromHex("82 80 80 80 80 80 80 80 80 00"),
		fromHex("ff ff ff ff ff ff ff ff ff 7f"),
		fromHex("81 80 80 80 80 80 80 80 80 80 00"),
		fromHex("81 80 80 80 80 80 80 80 80 80 80 80 00"),
		many(40, byte(0xff)),
		many(40, byte(0x80)),
	}
}

func TestNumbersThatAreNone(t *testing.T) { // P26.2: in place of each number of each command
	seen := 0
	for _, c := range each() {
		l, isNumber := pieces(c)
		if !bytes.Equal(slices.Concat(l...), askedBytes(c)) {
			t.Fatal("the pieces are not the bytes")
		}
		for i := range l {
			if !isNumber[i] {
				continue
			}
			for _, odd := range noNumbers(l[i]) {
				spoilt := slices.Clone(l)
				spoilt[i] = odd
				b := slices.Concat(spoilt...)
				holdNone(t, fmt.Sprintf("%x for the piece %d", odd, i), b, 0, api.ErrForm)
				holdNoList(t, fmt.Sprintf("%x for the piece %d", odd, i), join([]byte{2, 6, 0}, b), 3)
				seen++
			}
		}
	}
	l := times(pair(1, 2), pair(300, -4))
	for at := range 5 {
		parts := [][]byte{askedCount(2), askedInt(1), askedInt(2), askedInt(300), askedInt(-4)}
		if !bytes.Equal(slices.Concat(parts...), askedFront(l)) {
			t.Fatal("the parts are not the bytes")
		}
		for _, odd := range noNumbers(parts[at]) {
			spoilt := slices.Clone(parts)
			spoilt[at] = odd
			holdNoFront(t, "a number that is none", slices.Concat(spoilt...), 0, api.ErrForm)
		}
	}
	if seen < 150 {
		t.Error(seen)
	}
}

// sayings are counts that say more than a bound.
func sayings(most int) [][]byte {
	return [][]byte{askedCount(most + 1), askedCount(most + 128), askedCount(1 << 31), askedCount(1 << 32), askedCount(high),
		fromHex("81 80 80 80 80 80 80 80 80 00"), fromHex("81 ff ff ff ff ff ff ff ff 7f")}
}

func TestSheetsThatAreTooLong(t *testing.T) { // P26.2: longer than MaxSheet, or than what there is
	for _, said := range sayings(65536) {
		for _, there := range []int{0, 1, 65536, 65537, 70000} {
			holdNone(t, "a sheet that is said to be longer than MaxSheet", join([]byte{0}, said, make([]byte, there)), 0, api.ErrForm)
		}
	}
	for _, size := range []int{1, 2, 127, 128, 65535, 65536} {
		for _, missing := range []int{1, size} {
			b := join([]byte{0}, askedCount(size), make([]byte, size-missing))
			holdNone(t, "a sheet that is not there", b, 0, api.ErrForm)
			holdNone(t, "a sheet that is not there, but spare room", withRoom(b, make([]byte, size)...), 0, api.ErrForm)
		}
	}
	holdNone(t, "a sheet of MaxSheet + 1", askedBytes(install(make([]byte, 65537))), 0, api.ErrForm)
}

func TestRowsThatAreNone(t *testing.T) { // P26.2: what row.Get refuses
	behind := fromHex("02 04 06")
	for x := 2; x < 256; x++ {
		holdNone(t, "a kind that is none", join([]byte{1, 2, 1, byte(x), 1, 0x61}, behind), 0, api.ErrForm)
	}
	for _, said := range sayings(16) {
		holdNone(t, "a row of too many", join([]byte{1, 2}, said, make([]byte, 400), behind), 0, api.ErrForm)
	}
	for _, said := range sayings(4096) {
		holdNone(t, "a text that is too long", join([]byte{1, 2, 1, 1}, said, make([]byte, 5000), behind), 0, api.ErrForm)
	}
	holdNone(t, "a text that is not there", fromHex("01 02 01 01 05 61 02 04 06"), 0, api.ErrForm)
	for name, wrong := range wrongRows() {
		c := insert(1, up(wrong.row, 1, 2, 3))
		if wrong.want != api.ErrKind {
			holdNone(t, name, askedBytes(c), 0, api.ErrForm)
		}
	}
}

func TestFrontsThatAreTooMany(t *testing.T) { // P26.2: MaxGiven + 1 times, which PutFront puts all the same
	for _, count := range []int{17, 18, 127, 128, 5000} {
		b := wire.PutFront(nil, rising(count))
		holdNoFront(t, fmt.Sprint(count, " times"), b, 0, api.ErrForm)
		for _, do := range []byte{2, 4} {
			holdNone(t, fmt.Sprint(count, " times"), join([]byte{do, 2}, b), 0, api.ErrForm)
			holdNoList(t, fmt.Sprint(count, " times"), join([]byte{1, do, 2}, b), 1)
		}
	}
	for _, said := range sayings(16) {
		b := join(said, make([]byte, 500))
		holdNoFront(t, "said to be too many", b, 0, api.ErrForm)
		holdNone(t, "said to be too many", join([]byte{2, 2}, b), 0, api.ErrForm)
	}
}

func TestNoList(t *testing.T) { // P26.3: ErrForm and 0, if there is no number from 0 to MaxCmds
	holdNoList(t, "nil", nil, 0)
	holdNoList(t, "none", []byte{}, 0)
	holdNoList(t, "none, with spare room", withRoom([]byte{}, 0, 0), 0)
	polls := bytes.Repeat([]byte{6, 0}, 5000)
	for _, said := range sayings(4096) {
		holdNoList(t, "above MaxCmds", said, 0)
		holdNoList(t, "above MaxCmds", join(said, polls[:2*4097]), 0)
		holdNoList(t, "above MaxCmds", join(said, polls), 0)
	}
	for _, count := range [][]byte{{0}, {1}, {2}, askedCount(300), askedCount(4096)} {
		for _, odd := range noNumbers(count) {
			holdNoList(t, "no number", odd, 0)
			holdNoList(t, "no number", join(odd, polls), 0)
		}
	}
	holdNoList(t, "a number that is cut short", []byte{0x81}, 0)
	holdNoList(t, "a number that is cut short, with spare room", withRoom([]byte{0x81}, 0, 6, 0), 0)
}

func TestListsWithOneThatIsNone(t *testing.T) { // P26.3: ErrForm and the place where that command begins
	l := each()
	for i := range l {
		ahead := join(askedCount(7), slices.Concat(bytesOf(l[:i])...))
		behind := slices.Concat(bytesOf(l[i+1:])...)
		for _, odd := range [][]byte{{7}, {0xff}, {0x80}, {2, 0x80, 0}, {3, 0, 0x80, 1}, {1, 0, 17}, join([]byte{4, 0}, askedFront(rising(17)))} {
			holdNoList(t, fmt.Sprintf("%x for the command %d", odd, i), join(ahead, odd, behind), len(ahead))
			holdNoList(t, fmt.Sprintf("%x for the command %d, the last", odd, i), join(ahead, odd), len(ahead))
			holdNoList(t, fmt.Sprintf("%x for the command %d, and a later one", odd, i), join(ahead, odd, odd, behind), len(ahead))
		}
		whole := askedBytes(l[i])
		for cut := range whole {
			holdNoList(t, fmt.Sprintf("the command %d cut short at %d", i, cut), join(ahead, whole[:cut]), len(ahead))
		}
	}
}

// bytesOf are the bytes of each command.
func bytesOf(l []api.Cmd) [][]byte {
	var out [][]byte
	for _, c := range l {
		out = append(out, askedBytes(c))
	}
	return out
}

func TestListsThatGoOn(t *testing.T) { // P26.3: ErrForm and the place behind the last command
	lists := map[string][]api.Cmd{"none": nil, "one": {poll(0)}, "each": each(), "MaxCmds": many(4096, poll(1)), "a text": {insert(1, up(r("abc"), 1, 2, 3))}}
	for name, l := range lists {
		b := askedList(l)
		for _, behind := range [][]byte{{0}, {6}, {7}, {0x80}, {6, 0}, []byte("behind"), b} {
			holdNoList(t, name+" and more", join(b, behind), len(b))
		}
		if m, e, at := wire.Decode(withRoom(b, 0, 6, 0)); e != api.OK || at != len(b) || len(m) != len(l) {
			t.Errorf("%s with spare room: %d commands, %d, %d", name, len(m), e, at)
		}
	}
}

func TestListsThatAreSaidToBeLonger(t *testing.T) { // P26.3: the command that is not there begins at the end
	for _, said := range []int{8, 9, 127, 128, 4096} {
		b := join(askedCount(said), slices.Concat(bytesOf(each())...))
		holdNoList(t, fmt.Sprint("seven are said to be ", said), b, len(b))
		holdNoList(t, fmt.Sprint("seven are said to be, with spare room, ", said), withRoom(b, bytes.Repeat([]byte{6, 0}, 10)...), len(b))
	}
	holdNoList(t, "one is said to be there", []byte{1}, 1)
	holdNoList(t, "one byte of it is", []byte{1, 6}, 1)
}

func TestTheFirstFaultOfAList(t *testing.T) { // P26.3: also if b goes on, or is cut short behind it
	holdNoList(t, "two that are none", []byte{3, 6, 0, 7, 8, 9}, 3)
	holdNoList(t, "none, and cut short", []byte{3, 7}, 1)
	holdNoList(t, "none, and more", []byte{1, 7, 6, 0, 6, 0}, 1)
	holdNoList(t, "fewer than there are", []byte{1, 6, 0, 7}, 3)
}

func TestErrorsTellNothingElse(t *testing.T) { // first error: with an error every other result is zero
	b := askedBytes(insert(5, up(r("abc", 7), 1, 2, 3)))
	for i := range b {
		c, next, e := wire.Get(b[:i], 0)
		if e != api.ErrForm || next != 0 || c.Node != 0 || c.Do != 0 || c.Up.Row != nil && len(c.Up.Row) > 0 {
			t.Errorf("cut at %d: %s, %d, %d", i, brief(c), next, e)
		}
	}
	names := slices.Sorted(maps.Keys(wrongCmds()))
	for _, name := range names {
		wrong := wrongCmds()[name]
		l := append(each(), wrong.cmd)
		if b, e := wire.Encode(l); e != wrong.want || len(b) != 0 {
			t.Errorf("%s: %s, %d", name, short(b), e)
		}
		if b, e := wire.Put([]byte(strings.Repeat("ahead", 9)), wrong.cmd); e != wrong.want || len(b) != 0 {
			t.Errorf("%s: %s, %d", name, short(b), e)
		}
	}
}

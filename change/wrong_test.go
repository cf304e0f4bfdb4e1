package change_test

import (
	"fmt"
	"slices"
	"testing"

	"runnel/api"
	"runnel/change"
)

// noOuts are numbers of outs that may not be.
func noOuts() []int {
	return []int{low, low + 1, -1 << 32, -8, -1, 0, 9, 10, 16, 256, 1 << 32, 1<<32 + 1, high - 1, high}
}

// holdRefused holds that all calls on such notes are refused with the same error, and tell nothing else.
func holdRefused(t *testing.T, name string, outs int, l []api.Note, want api.Errno) {
	t.Helper()
	for _, out := range []int{0, 1, -1, outs, low, high} {
		holdFront(t, outs, out, l, nil, want)
		for _, at := range times(pair(0, 0), pair(-1, 0)) {
			holdAt(t, outs, out, l, at, nil, want)
		}
	}
	for _, since := range [][]api.Time{{pair(0, 0)}, nil, {pair(-1, -1)}, {pair(50, 50)}, rising(1025), {pair(1, 1), pair(0, 0)}} {
		if m, e := change.Tidy(outs, l, since); e != want || len(m) != 0 {
			t.Errorf("%s: Tidy(.., %s) = %s, %d, want nothing, %d", name, brief(since), brief(m), e, want)
		}
	}
}

func TestNumbersOfOutsThatMayNotBe(t *testing.T) { // P27.1, P27.3, P27.4: ErrArg and 0, ahead of all else
	tooMany := many(65537, upTo(0))
	wrong := notes(upTo(0, rising(1025)...), api.Note{Out: low, IsUp: true, Up: oddUp()})
	for _, outs := range noOuts() {
		for name, l := range map[string][]api.Note{"none": nil, "the page's": pageLog(), "sample": sample(), "too many": tooMany, "wrong": wrong} {
			holdCheck(t, name, outs, l, api.ErrArg, 0)
			holdRefused(t, name, outs, l, api.ErrArg)
		}
	}
	for outs := 1; outs <= 8; outs++ {
		holdCheck(t, "as many as may be", outs, pageLog(), api.OK, 2)
	}
}

func TestTooManyNotes(t *testing.T) { // P27.1 to P27.4: ErrMany and 0, ahead of each note's faults
	for _, count := range []int{65537, 65538, 131072} {
		for name, n := range map[string]api.Note{"frontiers": upTo(0, pair(0, 0)), "changes": came(0, r(1), 0, 0, 1), "no outs": upTo(9), "no rows": {IsUp: true, Up: oddUp()}} {
			l := many(count, n)
			holdCheck(t, name, 1, l, api.ErrMany, 0)
			holdRefused(t, name, 1, l, api.ErrMany)
			holdNotTold(t, name, l, api.ErrMany)
		}
	}
	l := many(65537, upTo(0))
	for _, at := range []int{0, 30000, 65536} {
		wrong := slices.Clone(l)
		wrong[at] = came(0, r(api.Val{Kind: 7}), 0, 0, 1)
		holdNotTold(t, "a kind among too many", wrong, api.ErrMany)
		holdCheck(t, "a kind among too many", 1, wrong, api.ErrMany, 0)
	}
	holdCheck(t, "one fewer", 1, l[:65536], api.OK, 65536)
}

func TestWrongNotes(t *testing.T) { // P27.1: the error of the first note that has a fault, and its place; Front, At and Tidy tell that
	good := sample()
	for name, wrong := range wrongNotes() {
		l := and(good, wrong.note)
		holdCheck(t, name, 4, l, wrong.want, len(good))
		holdCheck(t, name+", odd", 4, oddAll(l), wrong.want, len(good))
		holdCheck(t, name+", and more", 4, and(l, upTo(2, pair(60, 60)), upTo(0)), wrong.want, len(good))
		holdRefused(t, name, 4, l, wrong.want)
		if e, at := askedCheck(4, l); e != wrong.want || at != len(good) {
			t.Errorf("%s: %d, %d is asked", name, e, at)
		}
	}
}

func TestWrongNotesAtFirst(t *testing.T) { // P27.1: at the place 0
	for name, row := range wrongRows() {
		holdCheck(t, name, 1, notes(came(0, row.row, 0, 0, 1)), row.want, 0)
		holdCheck(t, name+" at no time", 1, notes(came(0, row.row, -1, 0, 1)), row.want, 0)
		holdCheck(t, name+" of no out", 1, notes(came(1, row.row, 0, 0, 1)), api.ErrRange, 0)
	}
	for name, f := range wrongFronts() {
		holdCheck(t, name, 1, notes(upTo(0, f.front...)), f.want, 0)
		holdCheck(t, name+" of no out", 1, notes(upTo(-1, f.front...)), api.ErrRange, 0)
	}
	for _, u := range noTimes() {
		holdCheck(t, "no time", 1, notes(came(0, r(1), u.Epoch, u.Round, 1)), api.ErrTime, 0)
		holdCheck(t, "no time", 1, notes(upTo(0, u)), api.ErrTime, 0)
	}
	for outs := 1; outs <= 8; outs++ {
		for _, out := range []int{outs, outs + 1, -1, low, high} {
			holdCheck(t, "no such out", outs, notes(upTo(out)), api.ErrRange, 0)
			holdCheck(t, "no such out", outs, notes(came(out, r(1), 0, 0, 1)), api.ErrRange, 0)
			holdCheck(t, "no such out in the end", outs, and(pageLog(), upTo(out)), api.ErrRange, 2)
		}
	}
}

func TestTheFirstOfSeveralFaults(t *testing.T) { // P27.1: note by note
	good := sample()
	for name, a := range wrongNotes() {
		for other, b := range wrongNotes() {
			if e, at := change.Check(4, and(good, a.note, b.note)); e != a.want || at != len(good) {
				t.Fatalf("%s, then %s: %d, %d", name, other, e, at)
			}
		}
	}
	l := notes(upTo(0, pair(2, 2)), came(0, r(1), 1, 1, 1), upTo(9), upTo(0, pair(0, 0)))
	holdCheck(t, "three faults", 1, l, api.ErrTime, 1)
}

func TestFrontiersThatGoBack(t *testing.T) { // P27.1: a refused frontier is not held to be the out's
	l := notes(upTo(0, pair(3, 0)), came(0, r(1), 3, 0, 1))
	for epoch := range 3 {
		for round := range 5 {
			holdCheck(t, "back", 1, and(l, upTo(0, pair(epoch, round))), api.ErrTime, 2)
			holdCheck(t, "ahead of it", 1, and(l, came(0, r(1), epoch, round, 1)), api.ErrTime, 2)
		}
	}
	holdCheck(t, "one of two", 1, and(l, upTo(0, pair(2, 5), pair(3, 0))), api.ErrTime, 2)
}

func TestOutsThatThereAreNot(t *testing.T) { // P27.3: ErrRange, behind Check's error, ahead of ErrOpen
	for outs := sampleOuts; outs <= 8; outs++ {
		for _, out := range []int{low, -9, -8, -1, outs, outs + 1, 8, 9, 256, 1 << 32, high} {
			holdFront(t, outs, out, sample(), nil, api.ErrRange)
			for _, at := range grid(3) {
				holdAt(t, outs, out, sample(), at, nil, api.ErrRange)
			}
		}
	}
}

func TestTimesThatAreOpen(t *testing.T) { // P27.3: none by moment.Check, or in advance of the out's last frontier
	l := and(sample(), upTo(3, rising(1024)...))
	for out := range 4 {
		for _, at := range noTimes() {
			holdAt(t, 4, out, l, at, nil, api.ErrOpen)
		}
	}
	for i, u := range rising(1024) {
		holdAt(t, 4, 3, l, u, nil, api.ErrOpen)
		if i > 0 {
			holdAt(t, 4, 3, l, pair(i, 1023-i+5), nil, api.ErrOpen)
		}
		if u.Round > 0 {
			holdAt(t, 4, 3, l, pair(u.Epoch, u.Round-1), nil, api.OK)
		}
	}
	holdAt(t, 4, 2, l, pair(1<<40, 1<<40), nil, api.ErrOpen)
	holdAt(t, 4, 2, l, pair(1<<40, 3), []api.Count{{Row: r("b"), Diff: -2}}, api.OK)
	// Open is asked ahead of sums.
	over := notes(came(0, r(1), 0, 0, high), came(0, r(1), 0, 0, high), upTo(0, pair(1, 1)))
	holdAt(t, 1, 0, over, pair(0, 5), nil, api.ErrOver)
	holdAt(t, 1, 0, over, pair(1, 1), nil, api.ErrOpen)
	holdAt(t, 1, 0, over, pair(0, -1), nil, api.ErrOpen)
}

func TestWrongSinces(t *testing.T) { // P27.4: front.Check's error, ErrArg of an empty one, ErrTime of one that is too far, in this order
	logs := map[string][]api.Note{
		"sample":  sample(),
		"over":    notes(came(0, r(1), 0, 0, high), came(0, r(1), 0, 0, high)),
		"nothing": nil,
		"closed":  notes(upTo(0), upTo(1), upTo(2), upTo(3)),
	}
	for name, l := range logs {
		for fault, wrong := range wrongFronts() {
			if m, e := change.Tidy(4, l, wrong.front); e != wrong.want || len(m) != 0 {
				t.Errorf("%s, %s: %s, %d, want %d", name, fault, brief(m), e, wrong.want)
			}
		}
		for _, since := range [][]api.Time{nil, {}} {
			if m, e := change.Tidy(4, l, since); e != api.ErrArg || len(m) != 0 {
				t.Errorf("%s, empty: %s, %d", name, brief(m), e)
			}
		}
	}
	for _, since := range [][]api.Time{{pair(0, 1)}, {pair(1, 0)}, {pair(4, 4)}, {pair(0, 3), pair(2, 0)}, {pair(1<<40, 1<<40)}} {
		for name, l := range logs {
			want := api.ErrTime
			if name == "closed" {
				want = api.OK
			}
			if m, e := holdTidy(t, 4, l, since); e != want {
				t.Errorf("%s to %v: %s, %d, want %d", name, since, brief(m), e, want)
			}
		}
	}
}

func TestSinceAndEachOut(t *testing.T) { // P27.4: whichever out it is whose last frontier since is not LessEq
	for outs := 1; outs <= 8; outs++ {
		for behind := range outs {
			var l []api.Note
			for out := range outs {
				if out != behind {
					l = append(l, upTo(out, pair(5, 5)))
				}
			}
			if m, e := change.Tidy(outs, l, times(pair(5, 5))); e != api.ErrTime || len(m) != 0 {
				t.Errorf("out %d of %d has no note: %s, %d", behind, outs, brief(m), e)
			}
			if m, e := change.Tidy(outs, and(l, upTo(behind, pair(5, 4), pair(6, 0))), times(pair(5, 5))); e != api.ErrTime || len(m) != 0 {
				t.Errorf("out %d of %d is behind: %s, %d", behind, outs, brief(m), e)
			}
			for _, last := range []api.Note{upTo(behind, pair(5, 5)), upTo(behind)} {
				if m, e := change.Tidy(outs, and(l, last), times(pair(5, 5))); e != api.OK || len(m) != outs {
					t.Errorf("out %d of %d: %s, %d", behind, outs, brief(m), e)
				}
			}
		}
	}
}

func TestTidyOfSumsThatAreTooGreat(t *testing.T) { // P27.4: the error of the consolidation, added as they came
	apart := notes(came(1, r(1), 0, 0, high), came(1, r(1), 1, 0, 1), came(0, r(1), 0, 0, 1), upTo(0), upTo(1))
	if m, e := holdTidy(t, 2, apart, times(pair(0, 0))); e != api.OK || len(m) != 5 {
		t.Errorf("at two times: %s, %d", brief(m), e)
	}
	if m, e := holdTidy(t, 2, apart, times(pair(1, 0))); e != api.ErrOver || len(m) != 0 {
		t.Errorf("at one: %s, %d", brief(m), e)
	}
	for name, c := range map[string]struct {
		diffs []int
		want  api.Errno
	}{
		"above":               {[]int{high, 1}, api.ErrOver},
		"below":               {[]int{low, -1}, api.ErrOver},
		"above on the way":    {[]int{high, 1, -1}, api.ErrOver},
		"another way":         {[]int{high, -1, 1}, api.OK},
		"least and greatest":  {[]int{low, high, 1}, api.OK},
		"nothing is left":     {[]int{high, low, 1}, api.OK},
		"the least":           {[]int{low}, api.OK},
		"twice the least":     {[]int{low, low}, api.ErrOver},
		"nothing, many times": {many(40, 0), api.OK},
	} {
		for _, out := range []int{0, 3, 7} {
			var l []api.Note
			for i, diff := range c.diffs {
				l = append(l, came(out, r("x"), i, 0, diff), came(out, r("y"), i, 0, 1))
			}
			for other := range 8 {
				l = append(l, upTo(other))
			}
			if m, e := holdTidy(t, 8, l, times(pair(50, 0))); e != c.want || c.want != api.OK && len(m) != 0 {
				t.Errorf("%s: %s, %d", name, brief(m), e)
			}
		}
	}
}

func TestNotTold(t *testing.T) { // P27.2: no bytes, and the error of the first note that has one
	wrong := map[string]noteFault{"1025 times": {upTo(1, rising(1025)...), api.ErrMany}, "very many times": {upTo(-5, many(5000, pair(-1, 0))...), api.ErrMany}}
	for name, row := range wrongRows() {
		wrong["a row: "+name] = noteFault{came(1, row.row, 1, 2, 3), row.want}
		wrong["a row at no time: "+name] = noteFault{came(low, row.row, low, 2, 3), row.want}
	}
	for name, a := range wrong {
		holdNotTold(t, name, notes(a.note), a.want)
		holdNotTold(t, name+", odd", notes(odd(a.note)), a.want)
		holdNotTold(t, name+" in the end", and(sample(), a.note), a.want)
		holdNotTold(t, name+" at first", and(notes(a.note), sample()...), a.want)
		l := many(65536, upTo(0))
		l[65535] = a.note
		holdNotTold(t, name+" in the end of MaxNotes", l, a.want)
		for other, b := range wrong {
			holdNotTold(t, name+", then "+other, and(sample(), a.note, upTo(1), b.note), a.want)
		}
	}
}

func TestFieldsThatPlayNoPartAreNoFault(t *testing.T) { // P27.2: 1025 times of a change, a row that may not be of a frontier
	for name, row := range wrongRows() {
		n := upTo(2, pair(1, 2))
		n.Up.Row = row.row
		holdTold(t, name, notes(n), fromHex("01  04 00 01 02 04"))
		holdCheck(t, name, 3, notes(n), api.OK, 1)
	}
	for name, f := range wrongFronts() {
		n := came(2, r(5), 1, 2, 3)
		n.Front = f.front
		holdTold(t, name, notes(n), fromHex("01  04 01 01 00 0a 02 04 06"))
		holdCheck(t, name, 3, notes(n), api.OK, 1)
	}
}

// noNumbers are bytes that are no number: noughts ahead of one, or above what there is.
func noNumbers(b []byte) [][]byte {
	return [][]byte{
		join([]byte{0x80}, b),
		join([]byte{0x80, 0x80}, b),
		fromHex("82 80 80 80 80 80 80 80 80 00"),
		fromHex("ff ff ff ff ff ff ff ff ff 7f"),
		fromHex("81 80 80 80 80 80 80 80 80 80 00"),
		fromHex("81 80 80 80 80 80 80 80 80 80 80 80 00"),
		many(40, byte(0xff)),
		many(40, byte(0x80)),
	}
}

// sayings are counts that say more than a bound.
func sayings(most int) [][]byte {
	return [][]byte{askedCount(most + 1), askedCount(most + 128), askedCount(1 << 31), askedCount(1 << 32), askedCount(high),
		fromHex("81 80 80 80 80 80 80 80 80 00"), fromHex("81 ff ff ff ff ff ff ff ff 7f")}
}

func TestBytesWithoutANumberAtFirst(t *testing.T) { // P27.2: ErrForm and 0
	holdNoLog(t, "nil", nil, 0)
	holdNoLog(t, "none", []byte{}, 0)
	holdNoLog(t, "none, with spare room", withRoom([]byte{}, 0, 0), 0)
	fronts := slices.Repeat([]byte{0, 0, 0}, 70000)
	for _, said := range sayings(65536) {
		holdNoLog(t, "above MaxNotes", said, 0)
		holdNoLog(t, "above MaxNotes", join(said, fronts[:3*65537]), 0)
		holdNoLog(t, "above MaxNotes", join(said, fronts), 0)
	}
	for _, count := range [][]byte{{0}, {1}, {2}, askedCount(300), askedCount(65536)} {
		for _, noNumber := range noNumbers(count) {
			holdNoLog(t, "no number", noNumber, 0)
			holdNoLog(t, "no number", join(noNumber, fronts), 0)
		}
	}
	holdNoLog(t, "a number that is cut short", []byte{0x81}, 0)
	holdNoLog(t, "a number that is cut short, with spare room", withRoom([]byte{0x81}, 0, 0, 0, 0), 0)
}

// mixed are notes of both kinds, with numbers of one byte and of several.
func mixed() []api.Note {
	return notes(came(1, r(7, "abc"), 3, 200, -300), upTo(0, pair(1, 200), pair(300, 4)), came(300, nil, 0, 0, 1), upTo(2), came(-2, r("", low), 5, 6, high), upTo(-70, pair(-1, low)))
}

// around is the bytes of mixed with others in the place of one note, and where those begin.
func around(i int, other []byte) ([]byte, int) {
	l := mixed()
	ahead := askedCount(len(l))
	for _, n := range l[:i] {
		ahead = append(ahead, askedNote(n)...)
	}
	b := join(ahead, other)
	for _, n := range l[i+1:] {
		b = append(b, askedNote(n)...)
	}
	return b, len(ahead)
}

func TestNotesThatAreNone(t *testing.T) { // P27.2: the first, the middle and the last: ErrForm and the place where that note begins
	var none [][]byte
	for kind := 2; kind < 256; kind++ {
		none = append(none, []byte{0, byte(kind), 0, 0, 0, 0})
	}
	for _, said := range sayings(1024) {
		none = append(none, join([]byte{0, 0}, said, make([]byte, 3000)))
	}
	for _, said := range sayings(16) {
		none = append(none, join([]byte{0, 1}, said, make([]byte, 300)))
	}
	for _, said := range sayings(4096) {
		none = append(none, join([]byte{0, 1, 1, 1}, said, make([]byte, 5000)))
	}
	for kind := 2; kind < 256; kind++ {
		none = append(none, []byte{0, 1, 1, byte(kind), 1, 0x61, 0, 0, 0})
	}
	none = append(none, askedNote(upTo(0, rising(1025)...)), askedNote(came(0, many(17, api.Val{}), 0, 0, 0)))
	for i := range mixed() {
		for _, b := range none {
			whole, at := around(i, b)
			holdNoLog(t, fmt.Sprint("none in the place ", i), whole, at)
		}
	}
}

func TestNumbersThatAreNone(t *testing.T) { // P27.2: in place of each number of each note
	for i, n := range mixed() {
		l := pieces(n)
		for j := range l {
			if !l[j].isNumber {
				continue
			}
			for _, noNumber := range noNumbers(l[j].bytes) {
				var b []byte
				for k := range l {
					if k == j {
						b = append(b, noNumber...)
					} else {
						b = append(b, l[k].bytes...)
					}
				}
				whole, at := around(i, b)
				holdNoLog(t, fmt.Sprintf("%x in the place of the piece %d of note %d", noNumber, j, i), whole, at)
			}
		}
	}
}

func TestCutShort(t *testing.T) { // P27.2: at each place, also where the rest is spare room: where the note begins that is cut, or at the end, where one begins that is not there
	for _, l := range [][]api.Note{mixed(), sample(), pageLog(), notes(upTo(0, rising(1024)...))} {
		b := askedLog(l)
		begins := []int{len(askedCount(len(l)))}
		for _, n := range l {
			begins = append(begins, begins[len(begins)-1]+len(askedNote(n)))
		}
		for cut := range b {
			want := 0
			for _, at := range begins {
				if at <= cut {
					want = at
				}
			}
			holdNoLog(t, "cut short", slices.Clone(b[:cut]), want)
			holdNoLog(t, "cut short, the rest as spare room", b[:cut], want)
		}
	}
	for _, n := range edgeNotes() {
		b := askedLog(notes(n))
		for cut := 1; cut < len(b); cut += 1 + len(b)/300 {
			holdNoLog(t, "cut short", b[:cut], 1)
		}
	}
}

func TestFewerThanAreSaid(t *testing.T) { // P27.2: the note that is not there begins at the end
	for _, said := range []int{7, 8, 127, 128, 65536} {
		b := askedCount(said)
		for _, n := range mixed() {
			b = append(b, askedNote(n)...)
		}
		holdNoLog(t, fmt.Sprint("six are said to be ", said), b, len(b))
		holdNoLog(t, fmt.Sprint("six are said to be, with spare room, ", said), withRoom(b, 0, 0, 0), len(b))
	}
	holdNoLog(t, "one is said to be there", []byte{1}, 1)
	holdNoLog(t, "a byte of it is", []byte{1, 0}, 1)
}

func TestBytesThatGoOn(t *testing.T) { // P27.2: ErrForm and the place behind the last note
	for name, l := range map[string][]api.Note{"none": nil, "one": {upTo(0)}, "the page's": pageLog(), "mixed": mixed(), "MaxNotes": many(65536, upTo(1))} {
		b := askedLog(l)
		for _, behind := range [][]byte{{0}, {1}, {2}, {0x80}, {0, 0, 0}, []byte("behind"), askedLog(pageLog())} {
			holdNoLog(t, name+" and more", join(b, behind), len(b))
		}
		if m, e, at := change.Decode(withRoom(b, 0, 0, 0)); e != api.OK || at != len(b) || len(m) != len(l) {
			t.Errorf("%s with spare room: %d notes, %d, %d", name, len(m), e, at)
		}
	}
}

func TestTheFirstFaultOfBytes(t *testing.T) { // P27.2: also if there are others behind it
	holdNoLog(t, "two that are none", fromHex("03  00 00 00  00 02  00 03"), 4)
	holdNoLog(t, "none, and cut short", fromHex("03  00 02"), 1)
	holdNoLog(t, "none, and more", fromHex("01  00 02 00 00 00 00 00"), 1)
	holdNoLog(t, "fewer than there are", fromHex("01  00 00 00  00 02"), 4)
}

package change_test

import (
	"bytes"
	"slices"
	"strings"
	"testing"

	"runnel/api"
	"runnel/change"
)

// chance tells numbers that follow from one alone: the same ones whenever it is made.
type chance uint64

func (x *chance) below(bound int) int {
	*x = *x*6364136223846793005 + 1442695040888963407
	return int(uint64(*x)>>33) % bound
}

// number is any, mostly a small one.
func (x *chance) number() int {
	switch x.below(8) {
	case 0:
		return []int{low, low + 1, high, high - 1, -65, -64, 63, 64, 8191, 8192}[x.below(10)]
	case 1:
		n := (x.below(1<<31)<<31 | x.below(1<<31)) >> x.below(62)
		return n - 2*n*x.below(2)
	}
	return x.below(40) - 4
}

func (x *chance) bytes(count int) []byte {
	b := make([]byte, count)
	for i := range b {
		b[i] = byte(x.below(256))
	}
	return b
}

// row is one of a few, with anything in the fields that play no part.
func (x *chance) row() api.Row {
	row := make(api.Row, x.below(3))
	for i := range row {
		row[i] = api.Val{Kind: x.below(2), Int: x.below(3), Str: "abc"[:x.below(3)]}
	}
	return row
}

// behind is a time in advance of a frontier.
func (x *chance) behind(f []api.Time) api.Time {
	u := f[x.below(len(f))]
	return pair(u.Epoch+x.below(3), u.Round+x.below(3))
}

// later is a frontier that another one is LessEq.
func (x *chance) later(f []api.Time) []api.Time {
	if len(f) == 0 || x.below(30) == 0 {
		return nil
	}
	if x.below(10) == 0 {
		return slices.Clone(f)
	}
	var l []api.Time
	for range 1 + x.below(3) {
		l = append(l, x.behind(f))
	}
	return least(l)
}

// log is one of so many outs, changes and frontiers mixed, with anything in the fields that play no part.
func (x *chance) log(outs, count int) []api.Note {
	fronts := many(outs, times(pair(0, 0)))
	var l []api.Note
	for range count {
		out := x.below(outs)
		n := api.Note{Out: out}
		if len(fronts[out]) > 0 && x.below(4) > 0 {
			n.IsUp = true
			n.Up = api.Up{Row: x.row(), Time: x.behind(fronts[out]), Diff: x.below(7) - 3}
		} else {
			fronts[out] = x.later(fronts[out])
			n.Front = fronts[out]
		}
		if x.below(8) == 0 {
			n = odd(n)
		}
		l = append(l, n)
	}
	return l
}

// since is a frontier, mostly one that is LessEq each last frontier of a log.
func (x *chance) since(outs int, l []api.Note) []api.Time {
	var all []api.Time
	for out := range outs {
		for _, u := range askedFront(l, out) {
			all = append(all, pair(max(0, u.Epoch-x.below(3)), max(0, u.Round-x.below(3))))
		}
	}
	if len(all) == 0 || x.below(6) == 0 {
		all = times(pair(x.below(5), x.below(5)), pair(x.below(5), x.below(5)))
	}
	return least(all)
}

// anyNote is one that may be told as bytes, mostly, whether it may come in a log or not.
func (x *chance) anyNote() api.Note {
	n := api.Note{Out: x.number(), IsUp: x.below(2) == 0}
	n.Up = api.Up{Time: pair(x.number(), x.number()), Diff: x.number()}
	for range x.below(5) {
		n.Up.Row = append(n.Up.Row, api.Val{Kind: x.below(2), Int: x.number(), Str: string(x.bytes(x.below(6)))})
	}
	for range x.below(5) {
		n.Front = append(n.Front, pair(x.number(), x.number()))
	}
	switch x.below(100) {
	case 0:
		n.Up.Row = append(n.Up.Row, api.Val{Kind: x.number()})
	case 1:
		n.Up.Row = append(n.Up.Row, r(strings.Repeat("y", 4090+x.below(12)))...)
	case 2:
		n.Up.Row = make(api.Row, 14+x.below(5))
	case 3:
		n.Front = make([]api.Time, 1021+x.below(6))
	}
	return n
}

func TestDrawnLogs(t *testing.T) { // P27.1 to P27.3: of one out and of several
	x := chance(27)
	for i := range 400 {
		outs := i%8 + 1
		l := x.log(outs, x.below(40))
		when := append(grid(5), pair(x.below(12), x.below(12)), pair(x.below(12), x.below(12)))
		if e := hold(t, outs, l, when...); e != api.OK {
			t.Fatalf("%d is asked of %s", e, brief(l))
		}
	}
}

func TestLongDrawnLogs(t *testing.T) { // P27.1 to P27.5
	x := chance(3)
	for _, outs := range []int{1, 2, 5, 8} {
		l := x.log(outs, 1500)
		if e := hold(t, outs, l, pair(3, 3), pair(8, 2), pair(40, 40)); e != api.OK {
			t.Fatal(e)
		}
		if m, e := holdTidy(t, outs, l, times(pair(0, 0))); e != api.OK {
			t.Error(e)
		} else {
			holdSame(t, outs, l, m, times(pair(0, 0)), grid(6)...)
		}
	}
}

func TestDrawnLogsWithFaults(t *testing.T) { // P27.1, P27.3: the first fault, of notes put in at any place
	x := chance(11)
	var wrong []noteFault
	for _, w := range wrongNotes() {
		wrong = append(wrong, w)
	}
	seen := map[api.Errno]int{}
	for i := range 1500 {
		outs := i%9 + 1
		l := x.log(min(outs, 8), x.below(15))
		for range x.below(3) {
			l = slices.Insert(l, x.below(len(l)+1), wrong[x.below(len(wrong))].note)
		}
		for range x.below(3) {
			l = slices.Insert(l, x.below(len(l)+1), came(x.below(9)-1, x.row(), x.below(6), x.below(6), 1))
		}
		if len(l) > 1 && x.below(2) == 0 {
			a, b := x.below(len(l)), x.below(len(l))
			l[a], l[b] = l[b], l[a]
		}
		seen[hold(t, outs, l, pair(0, 0), pair(1, 2))]++
		holdTidy(t, outs, l, x.since(outs, l))
	}
	if seen[api.OK] < 100 || seen[api.ErrArg] < 100 || seen[api.ErrRange] < 100 || seen[api.ErrTime] < 100 || seen[api.ErrKind] < 5 || seen[api.ErrForm] < 5 {
		t.Error(seen)
	}
}

func TestDrawnLogsTidied(t *testing.T) { // P27.4, P27.5: at all times in advance of since the same, and each row and time once
	x := chance(19)
	seen := map[api.Errno]int{}
	for i := range 1500 {
		outs := i%8 + 1
		l := x.log(outs, x.below(40))
		since := x.since(outs, l)
		m, e := holdTidy(t, outs, l, since)
		seen[e]++
		if e == api.OK {
			holdSame(t, outs, l, m, since, grid(7)...)
			if again, e := change.Tidy(outs, m, since); e != api.OK || !sameAll(again, m) {
				t.Errorf("tidied again: %s, %d, not %s", brief(again), e, brief(m))
			}
		}
	}
	if seen[api.OK] < 1000 || seen[api.ErrTime] < 50 {
		t.Error(seen)
	}
}

func TestDrawnNotes(t *testing.T) { // P27.2, P27.5: what is encoded is decoded as it was, whether it is a log or not
	x := chance(26)
	seen := map[api.Errno]int{}
	for range 3000 {
		var l []api.Note
		for range x.below(9) {
			l = append(l, x.anyNote())
		}
		fault := askedEncodeFault(l)
		seen[fault]++
		if fault != api.OK {
			holdNotTold(t, "drawn", l, fault)
			continue
		}
		holdTold(t, "drawn", l, askedLog(l))
		b, _ := change.Encode(l)
		m, _, _ := change.Decode(b)
		if again, e := change.Encode(m); e != api.OK || !bytes.Equal(again, b) {
			t.Errorf("encoded again: %s, %d", short(again), e)
		}
	}
	if seen[api.OK] < 1000 || seen[api.ErrMany] < 30 || seen[api.ErrLong] < 10 || seen[api.ErrKind] < 20 {
		t.Error(seen)
	}
}

// spoil changes something of bytes that are its own.
func (x *chance) spoil(b []byte) []byte {
	at := x.below(len(b))
	switch x.below(5) {
	case 0:
		b[at] = byte(x.below(256))
	case 1:
		b[at] ^= 1 << x.below(8)
	case 2:
		b = slices.Delete(b, at, min(len(b), at+1+x.below(3)))
	case 3:
		b = slices.Insert(b, at, byte(x.below(256)))
	case 4:
		other := x.below(len(b))
		b[at], b[other] = b[other], b[at]
	}
	return b
}

func TestDrawnBytes(t *testing.T) { // P27.2, P27.5: bytes that are nearly logs', and such as are nothing's
	x := chance(71)
	seen := map[api.Errno]int{}
	for range 6000 {
		b := askedLog(x.log(3, x.below(6)))
		for range 1 + x.below(2) {
			if len(b) > 0 {
				b = x.spoil(b)
			}
		}
		_, e := holdBytes(t, b)
		seen[e]++
		b = x.bytes(x.below(12))
		for i := range b {
			b[i] %= 4
		}
		holdBytes(t, b)
	}
	if seen[api.OK] < 300 || seen[api.ErrForm] < 1000 {
		t.Error(seen)
	}
}

func TestBytesChangedAtOnePlace(t *testing.T) { // P27.5: every byte to every other one
	for _, l := range [][]api.Note{mixed(), sample()} {
		b := askedLog(l)
		good := 0
		for i := range b {
			for x := range 256 {
				spoilt := slices.Clone(b)
				spoilt[i] = byte(x)
				if _, e := holdBytes(t, spoilt); e == api.OK {
					good++
				}
			}
		}
		if good < 1000 {
			t.Error(good)
		}
	}
}

func TestEveryShortLog(t *testing.T) { // P27.2, P27.5: all short bytes of a few
	good := 0
	var all func(b []byte, left int)
	all = func(b []byte, left int) {
		if _, e := holdBytes(t, b); e == api.OK {
			good++
		}
		if left == 0 {
			return
		}
		for _, x := range []byte{0, 1, 2, 3, 0x7f, 0x80, 0x81} {
			all(append(slices.Clip(b), x), left-1)
		}
	}
	all(nil, 6)
	if good < 100 {
		t.Error(good)
	}
}

func TestDrawnFrontiers(t *testing.T) { // P27.1: each two, whether the one may come behind the other
	x := chance(8)
	seen := map[api.Errno]int{}
	for range 4000 {
		var l []api.Note
		for range 2 {
			var f []api.Time
			for range x.below(5) {
				f = append(f, pair(x.below(6), x.below(6)))
			}
			if x.below(8) > 0 {
				f = least(f)
			}
			l = append(l, upTo(0, f...))
		}
		l = append(l, came(0, r(1), x.below(7), x.below(7), 1))
		seen[hold(t, 1, l)]++
	}
	if seen[api.OK] < 200 || seen[api.ErrTime] < 200 || seen[api.ErrForm] < 200 {
		t.Error(seen)
	}
}

func FuzzLogs(f *testing.F) { // P27.1 to P27.5
	for _, l := range [][]api.Note{nil, pageLog(), sample(), mixed(), {upTo(0, rising(20)...)}} {
		f.Add(askedLog(l), 1, 0, 0, 5)
		f.Add(askedLog(l), 4, 2, 3, 1)
	}
	x := chance(5)
	for outs := 1; outs <= 8; outs++ {
		f.Add(askedLog(x.log(outs, 12)), outs, 0, x.below(5), x.below(5))
	}
	f.Add([]byte{}, -1, 9, -1, 0)
	f.Fuzz(func(t *testing.T, b []byte, outs, out, epoch, round int) {
		l, e := holdBytes(t, b)
		if e != api.OK || len(l) > 200 {
			return
		}
		at := pair(epoch, round)
		hold(t, outs, l, at, pair(3, 3), pair(1<<40, 1<<40))
		there, fault := askedAt(outs, out, l, at)
		holdAt(t, outs, out, l, at, there, fault)
		for _, since := range [][]api.Time{nil, {pair(0, 0)}, {at}, least(times(at, pair(2, 2)))} {
			m, e := holdTidy(t, outs, l, since)
			if e != api.OK {
				continue
			}
			for out := range outs {
				_, a := change.At(outs, out, l, pair(1<<40, 1<<40))
				_, b := change.At(outs, out, m, pair(1<<40, 1<<40))
				if a == api.ErrOver || b == api.ErrOver {
					return // sums that are too great in the one order may not be in the other
				}
			}
			holdCheck(t, "tidied", outs, m, api.OK, len(m))
		}
	})
}

package change_test

import (
	"bytes"
	"cmp"
	"fmt"
	"math/big"
	"slices"
	"strconv"
	"strings"
	"testing"

	"runnel/api"
	"runnel/change"
)

// What the chapter says, put together in another way: an out's frontier is looked for from each note backwards, times are held against each other two by two, sums are those of numbers of any length, and numbers are told by their digits.

// under: is a nowhere above b?
func under(a, b api.Time) bool { return a.Epoch <= b.Epoch && a.Round <= b.Round }

func isTime(t api.Time) bool {
	return t.Epoch >= 0 && t.Round >= 0 && t.Epoch <= 1<<40 && t.Round <= 1<<40
}

// mayCome: is a time in advance of a frontier?
func mayCome(f []api.Time, t api.Time) bool {
	for _, u := range f {
		if under(u, t) {
			return true
		}
	}
	return false
}

// goesOn: is each time of g in advance of f?
func goesOn(f, g []api.Time) bool {
	for _, t := range g {
		if !mayCome(f, t) {
			return false
		}
	}
	return true
}

func orderTimes(a, b api.Time) int {
	return cmp.Or(cmp.Compare(a.Epoch, b.Epoch), cmp.Compare(a.Round, b.Round))
}

func orderVals(a, b api.Val) int {
	if a.Kind != b.Kind || a.Kind == api.KindInt {
		return cmp.Or(cmp.Compare(a.Kind, b.Kind), cmp.Compare(a.Int, b.Int))
	}
	return strings.Compare(a.Str, b.Str)
}

func orderRows(a, b api.Row) int { return slices.CompareFunc(a, b, orderVals) }

// least are those times that no other one is under, in order.
func least(l []api.Time) []api.Time {
	var out []api.Time
	for i, t := range l {
		if !slices.ContainsFunc(l, func(u api.Time) bool { return u != t && under(u, t) }) && !slices.Contains(l[:i], t) {
			out = append(out, t)
		}
	}
	slices.SortFunc(out, orderTimes)
	return out
}

// standsFor is the time that stands for another one, where only times in advance of a frontier are asked for.
func standsFor(f []api.Time, t api.Time) api.Time {
	rep := pair(high, high)
	for _, u := range f {
		rep = pair(min(rep.Epoch, max(t.Epoch, u.Epoch)), min(rep.Round, max(t.Round, u.Round)))
	}
	return rep
}

func askedRowFault(row api.Row) api.Errno {
	if len(row) > 16 {
		return api.ErrMany
	}
	for _, v := range row {
		if v.Kind != 0 && v.Kind != 1 {
			return api.ErrKind
		}
		if v.Kind == 1 && len(v.Str) > 4096 {
			return api.ErrLong
		}
	}
	return api.OK
}

func askedFrontFault(f []api.Time) api.Errno {
	if len(f) > 1024 {
		return api.ErrMany
	}
	for _, t := range f {
		if !isTime(t) {
			return api.ErrTime
		}
	}
	for i, t := range f {
		for _, u := range f[:i] {
			if under(u, t) || under(t, u) || orderTimes(u, t) >= 0 {
				return api.ErrForm
			}
		}
	}
	return api.OK
}

// askedFront is the last frontier of an out.
func askedFront(l []api.Note, out int) []api.Time {
	for _, n := range slices.Backward(l) {
		if n.Out == out && !n.IsUp {
			return n.Front
		}
	}
	return times(pair(0, 0))
}

// askedNoteFault is why a note may not come behind others.
func askedNoteFault(outs int, ahead []api.Note, n api.Note) api.Errno {
	if n.Out < 0 || n.Out >= outs {
		return api.ErrRange
	}
	then, fault := askedFront(ahead, n.Out), api.OK
	if n.IsUp {
		fault = askedRowFault(n.Up.Row)
		if fault == api.OK && (!isTime(n.Up.Time) || !mayCome(then, n.Up.Time)) {
			fault = api.ErrTime
		}
		return fault
	}
	fault = askedFrontFault(n.Front)
	if fault == api.OK && !goesOn(then, n.Front) {
		fault = api.ErrTime
	}
	return fault
}

func askedCheck(outs int, l []api.Note) (e api.Errno, at int) {
	if outs < 1 || outs > 8 {
		return api.ErrArg, 0
	}
	if len(l) > 65536 {
		return api.ErrMany, 0
	}
	for i, n := range l {
		if e := askedNoteFault(outs, l[:i], n); e != api.OK {
			return e, i
		}
	}
	return api.OK, len(l)
}

// askedOutFault is why nothing is told of an out.
func askedOutFault(outs, out int, l []api.Note) api.Errno {
	if e, _ := askedCheck(outs, l); e != api.OK {
		return e
	}
	if out < 0 || out >= outs {
		return api.ErrRange
	}
	return api.OK
}

// askedUps are the changes of an out, as they came.
func askedUps(l []api.Note, out int) []api.Up {
	var ups []api.Up
	for _, n := range l {
		if n.Out == out && n.IsUp {
			ups = append(ups, n.Up)
		}
	}
	return ups
}

// askedSums are the sums of changes of the same row and time, in order, but those that are 0; over: one left the numbers on its way.
func askedSums(ups []api.Up) (told []api.Up, over bool) {
	alike := func(a, b api.Up) int { return cmp.Or(orderRows(a.Row, b.Row), orderTimes(a.Time, b.Time)) }
	for i, u := range ups {
		if slices.ContainsFunc(ups[:i], func(v api.Up) bool { return alike(u, v) == 0 }) {
			continue
		}
		sum := new(big.Int)
		for _, v := range ups[i:] {
			if alike(u, v) == 0 {
				sum.Add(sum, big.NewInt(int64(v.Diff)))
				over = over || !sum.IsInt64()
			}
		}
		if sum.Sign() != 0 {
			told = append(told, api.Up{Row: u.Row, Time: u.Time, Diff: int(sum.Int64())})
		}
	}
	slices.SortFunc(told, alike)
	return told, over
}

func askedAt(outs, out int, l []api.Note, t api.Time) ([]api.Count, api.Errno) {
	if e := askedOutFault(outs, out, l); e != api.OK {
		return nil, e
	}
	if !isTime(t) || mayCome(askedFront(l, out), t) {
		return nil, api.ErrOpen
	}
	var ups []api.Up
	for _, u := range askedUps(l, out) {
		if under(u.Time, t) {
			ups = append(ups, api.Up{Row: u.Row, Diff: u.Diff})
		}
	}
	sums, over := askedSums(ups)
	if over {
		return nil, api.ErrOver
	}
	var told []api.Count
	for _, u := range sums {
		told = append(told, api.Count{Row: u.Row, Diff: u.Diff})
	}
	return told, api.OK
}

// askedTidyFault is why a log is not tidied, but for sums.
func askedTidyFault(outs int, l []api.Note, since []api.Time) api.Errno {
	if e, _ := askedCheck(outs, l); e != api.OK {
		return e
	}
	if e := askedFrontFault(since); e != api.OK {
		return e
	}
	if len(since) == 0 {
		return api.ErrArg
	}
	for out := range outs {
		if !goesOn(since, askedFront(l, out)) {
			return api.ErrTime
		}
	}
	return api.OK
}

func askedTidy(outs int, l []api.Note, since []api.Time) ([]api.Note, api.Errno) {
	if e := askedTidyFault(outs, l, since); e != api.OK {
		return nil, e
	}
	var tidy []api.Note
	for out := range outs {
		ups := askedUps(l, out)
		for i := range ups {
			ups[i].Time = standsFor(since, ups[i].Time)
		}
		sums, over := askedSums(ups)
		if over {
			return nil, api.ErrOver
		}
		for _, u := range sums {
			tidy = append(tidy, api.Note{Out: out, IsUp: true, Up: u})
		}
		tidy = append(tidy, upTo(out, askedFront(l, out)...))
	}
	return tidy, api.OK
}

// askedNumber cuts a number's digits of base two into groups of seven.
func askedNumber(n *big.Int) []byte {
	digits := n.Text(2)
	digits = strings.Repeat("0", (7-len(digits)%7)%7) + digits
	var b []byte
	for len(digits) > 0 {
		ahead := "1"
		if len(digits) == 7 {
			ahead = "0"
		}
		x, _ := strconv.ParseUint(ahead+digits[:7], 2, 8)
		b, digits = append(b, byte(x)), digits[7:]
	}
	return b
}

// askedInt is a number with a sign: 2n, or -2n - 1.
func askedInt(n int) []byte {
	x := new(big.Int).Mul(big.NewInt(int64(n)), big.NewInt(2))
	if n < 0 {
		x.Neg(x).Sub(x, big.NewInt(1))
	}
	return askedNumber(x)
}

func askedCount(n int) []byte { return askedNumber(big.NewInt(int64(n))) }

// piece is a number of a note's bytes, or what stands between them.
type piece struct {
	bytes    []byte
	isNumber bool
}

// pieces are a note's bytes, also of one that may not be told, number by number.
func pieces(n api.Note) []piece {
	var l []piece
	number := func(b []byte) { l = append(l, piece{b, true}) }
	other := func(b ...byte) { l = append(l, piece{b, false}) }
	time := func(t api.Time) {
		number(askedInt(t.Epoch))
		number(askedInt(t.Round))
	}
	number(askedInt(n.Out))
	if !n.IsUp {
		other(0)
		number(askedCount(len(n.Front)))
		for _, t := range n.Front {
			time(t)
		}
		return l
	}
	other(1)
	number(askedCount(len(n.Up.Row)))
	for _, v := range n.Up.Row {
		other(byte(v.Kind))
		if v.Kind == api.KindStr {
			number(askedCount(len(v.Str)))
			other([]byte(v.Str)...)
		} else {
			number(askedInt(v.Int))
		}
	}
	time(n.Up.Time)
	number(askedInt(n.Up.Diff))
	return l
}

func askedNote(n api.Note) []byte {
	var b []byte
	for _, p := range pieces(n) {
		b = append(b, p.bytes...)
	}
	return b
}

// askedLog are the bytes of notes, also of such as may not be told.
func askedLog(l []api.Note) []byte {
	b := askedCount(len(l))
	for _, n := range l {
		b = append(b, askedNote(n)...)
	}
	return b
}

func askedEncodeFault(l []api.Note) api.Errno {
	if len(l) > 65536 {
		return api.ErrMany
	}
	for _, n := range l {
		if n.IsUp && askedRowFault(n.Up.Row) != api.OK {
			return askedRowFault(n.Up.Row)
		}
		if !n.IsUp && len(n.Front) > 1024 {
			return api.ErrMany
		}
	}
	return api.OK
}

// taker takes things off bytes; once it can't it takes nothing any more.
type taker struct {
	rest []byte
	bad  bool
}

func (k *taker) fail() {
	k.rest, k.bad = nil, true
}

// byte takes one, of those below a bound.
func (k *taker) byte(below int) int {
	if len(k.rest) == 0 || int(k.rest[0]) >= below {
		k.fail()
		return 0
	}
	x := int(k.rest[0])
	k.rest = k.rest[1:]
	return x
}

// number takes one that is told in the one way in which it may be.
func (k *taker) number() *big.Int {
	digits := ""
	for i, x := range k.rest[:min(len(k.rest), 10)] { // ten groups are more than there are bits
		s := fmt.Sprintf("%08b", x)
		digits += s[1:]
		if s[0] == '1' {
			continue
		}
		n, _ := new(big.Int).SetString(digits, 2)
		if n.BitLen() > 64 || !bytes.Equal(askedNumber(n), k.rest[:i+1]) {
			break
		}
		k.rest = k.rest[i+1:]
		return n
	}
	k.fail()
	return new(big.Int)
}

func (k *taker) count(most int) int {
	n := k.number()
	if n.Cmp(big.NewInt(int64(most))) > 0 {
		k.fail()
		return 0
	}
	return int(n.Int64())
}

func (k *taker) int() int {
	x := k.number()
	if x.Bit(0) == 1 {
		x.Add(x, big.NewInt(1)).Neg(x)
	}
	return int(new(big.Int).Quo(x, big.NewInt(2)).Int64())
}

func (k *taker) text(most int) string {
	count := k.count(most)
	if count > len(k.rest) {
		k.fail()
		return ""
	}
	s := string(k.rest[:count])
	k.rest = k.rest[count:]
	return s
}

func (k *taker) time() api.Time {
	epoch := k.int()
	return pair(epoch, k.int())
}

func (k *taker) row() api.Row {
	var l api.Row
	for range k.count(16) {
		v := api.Val{Kind: k.byte(2)}
		if v.Kind == 1 {
			v.Str = k.text(4096)
		} else {
			v.Int = k.int()
		}
		l = append(l, v)
	}
	return l
}

func (k *taker) note() api.Note {
	n := api.Note{Out: k.int()}
	if k.byte(2) == 1 {
		n.IsUp = true
		n.Up.Row = k.row()
		n.Up.Time = k.time()
		n.Up.Diff = k.int()
		return n
	}
	for range k.count(1024) {
		n.Front = append(n.Front, k.time())
	}
	return n
}

// askedDecode is what is told of a log's bytes.
func askedDecode(b []byte) (l []api.Note, e api.Errno, at int) {
	k := &taker{rest: b}
	count := k.count(65536)
	if k.bad {
		return nil, api.ErrForm, 0
	}
	for range count {
		at = len(b) - len(k.rest)
		l = append(l, k.note())
		if k.bad {
			return nil, api.ErrForm, at
		}
	}
	if len(k.rest) > 0 {
		return nil, api.ErrForm, len(b) - len(k.rest)
	}
	return l, api.OK, len(b)
}

// holdCheck holds what Check says of notes against what is asked.
func holdCheck(t *testing.T, name string, outs int, l []api.Note, want api.Errno, place int) {
	t.Helper()
	if e, at := change.Check(outs, l); e != want || at != place {
		t.Errorf("%s: Check(%d, %s) = %d, %d, want %d, %d", name, outs, brief(l), e, at, want, place)
	}
}

// holdTold holds notes against their bytes, both ways: what is told has zeros in the fields that play no part.
func holdTold(t *testing.T, name string, l []api.Note, want []byte) {
	t.Helper()
	b, e := change.Encode(l)
	if e != api.OK || !bytes.Equal(b, want) {
		t.Errorf("%s: Encode = %s, %d, want %s", name, short(b), e, short(want))
	}
	m, e, at := change.Decode(want)
	if e != api.OK || at != len(want) || !sameAll(m, plainAll(l)) {
		t.Errorf("%s: Decode = %s, %d, %d, want %s", name, brief(m), e, at, brief(plainAll(l)))
	}
	for i, n := range m {
		for _, v := range n.Up.Row {
			if v.Kind == api.KindInt && v.Str != "" || v.Kind == api.KindStr && v.Int != 0 {
				t.Errorf("%s: a value of note %d has something in the field that plays no part: %s", name, i, brief(v))
			}
		}
	}
}

// holdNotTold holds notes that may not be told as bytes against their error.
func holdNotTold(t *testing.T, name string, l []api.Note, want api.Errno) {
	t.Helper()
	if b, e := change.Encode(l); e != want || len(b) != 0 {
		t.Errorf("%s: Encode = %s, %d, want nothing, %d", name, short(b), e, want)
	}
}

// holdNoLog holds bytes that are no log's against the place of the fault.
func holdNoLog(t *testing.T, name string, b []byte, want int) {
	t.Helper()
	if l, e, at := change.Decode(b); e != api.ErrForm || at != want || len(l) != 0 {
		t.Errorf("%s: Decode(%s) = %s, %d, %d, want nothing, ErrForm, %d", name, short(b), brief(l), e, at, want)
	}
}

// holdBytes holds what is decoded against what is asked: what is told is told as the same bytes again.
func holdBytes(t *testing.T, b []byte) ([]api.Note, api.Errno) {
	t.Helper()
	want, e, place := askedDecode(b)
	l, told, at := change.Decode(b)
	if told != e || at != place || !sameAll(l, want) {
		t.Errorf("Decode(%s) = %s, %d, %d, want %s, %d, %d", short(b), brief(l), told, at, brief(want), e, place)
	}
	if told != api.OK {
		return nil, told
	}
	if again, e := change.Encode(l); e != api.OK || !bytes.Equal(again, b) {
		t.Errorf("Decode(%s) is encoded as %s, %d", short(b), short(again), e)
	}
	return l, told
}

// holdFront holds an out's last frontier against what is asked.
func holdFront(t *testing.T, outs, out int, l []api.Note, want []api.Time, fault api.Errno) {
	t.Helper()
	if f, e := change.Front(outs, out, l); e != fault || !slices.Equal(f, want) {
		t.Errorf("Front(%d, %d, %s) = %s, %d, want %s, %d", outs, out, brief(l), brief(f), e, brief(want), fault)
	}
}

// holdAt holds what an out has at a time against what is asked.
func holdAt(t *testing.T, outs, out int, l []api.Note, when api.Time, want []api.Count, fault api.Errno) {
	t.Helper()
	if c, e := change.At(outs, out, l, when); e != fault || !sameCounts(c, want) {
		t.Errorf("At(%d, %d, %s, %v) = %s, %d, want %s, %d", outs, out, brief(l), when, brief(c), e, brief(want), fault)
	}
}

// holdTidy holds what is tidied against what is asked.
func holdTidy(t *testing.T, outs int, l []api.Note, since []api.Time) ([]api.Note, api.Errno) {
	t.Helper()
	want, fault := askedTidy(outs, l, since)
	m, e := change.Tidy(outs, l, since)
	if e != fault || !sameAll(m, want) {
		t.Errorf("Tidy(%d, %s, %v) = %s, %d, want %s, %d", outs, brief(l), since, brief(m), e, brief(want), fault)
	}
	return m, e
}

// grid are times near the beginning, and some that are none, or the last.
func grid(most int) []api.Time {
	l := times(pair(-1, 0), pair(0, -1), pair(1<<40, 1<<40), pair(1<<40+1, 0), pair(0, 1<<40), pair(1<<40, 0), pair(low, high))
	for epoch := range most {
		for round := range most {
			l = append(l, pair(epoch, round))
		}
	}
	return l
}

// hold holds all that is told of a log against what is asked, of outs that there are not, too.
func hold(t *testing.T, outs int, l []api.Note, when ...api.Time) api.Errno {
	t.Helper()
	want, place := askedCheck(outs, l)
	holdCheck(t, "", outs, l, want, place)
	for out := -1; out <= min(max(outs, 0), 8)+1; out++ {
		fault := askedOutFault(outs, out, l)
		var front []api.Time
		if fault == api.OK {
			front = askedFront(l, out)
		}
		holdFront(t, outs, out, l, front, fault)
		for _, at := range when {
			there, fault := askedAt(outs, out, l, at)
			holdAt(t, outs, out, l, at, there, fault)
		}
	}
	if fault := askedEncodeFault(l); fault != api.OK {
		holdNotTold(t, "", l, fault)
	} else {
		holdTold(t, "", l, askedLog(l))
	}
	return want
}

// holdSame holds what follows of a log that is tidied: at times in advance of since the same is told, and nothing is told twice.
func holdSame(t *testing.T, outs int, l, tidy []api.Note, since []api.Time, when ...api.Time) {
	t.Helper()
	holdCheck(t, "tidied", outs, tidy, api.OK, len(tidy))
	for i, n := range tidy {
		if !n.IsUp {
			continue
		}
		if n.Up.Diff == 0 || standsFor(since, n.Up.Time) != n.Up.Time {
			t.Errorf("tidied: %s, where only times in advance of %v are asked for", brief(n), since)
		}
		for _, m := range tidy[:i] {
			if m.IsUp && m.Out == n.Out && m.Up.Time == n.Up.Time && sameRow(m.Up.Row, n.Up.Row) {
				t.Errorf("tidied: twice %s", brief(n))
			}
		}
	}
	for out := range outs {
		f, e := change.Front(outs, out, l)
		holdFront(t, outs, out, tidy, f, e)
		for _, at := range when {
			if mayCome(since, at) {
				c, e := change.At(outs, out, l, at)
				holdAt(t, outs, out, tidy, at, c, e)
			}
		}
	}
}

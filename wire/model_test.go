package wire_test

import (
	"bytes"
	"fmt"
	"math/big"
	"slices"
	"strconv"
	"strings"
	"testing"

	"runnel/api"
	"runnel/wire"
)

// What the chapter says, put together in another way: by the names of the fields that a command uses, and numbers by their digits.

// askedFields are the fields that a command uses, in the order in which the chapter puts them.
func askedFields(do int) []string {
	return strings.Fields(map[int]string{
		0: "Sheet",
		1: "Node Row Time Diff",
		2: "Node Front",
		3: "Node Fuel",
		4: "Node Front",
		5: "Node Time",
		6: "Node",
	}[do])
}

// askedPlain is a command of the fields that it uses.
func askedPlain(c api.Cmd) api.Cmd {
	out := api.Cmd{Do: c.Do}
	for _, name := range askedFields(c.Do) {
		switch name {
		case "Sheet":
			out.Sheet = c.Sheet
		case "Node":
			out.Node = c.Node
		case "Fuel":
			out.Fuel = c.Fuel
		case "Row":
			out.Up.Row = c.Up.Row
		case "Time":
			out.Up.Time = c.Up.Time
		case "Diff":
			out.Up.Diff = c.Up.Diff
		case "Front":
			out.Front = c.Front
		}
	}
	return copied(out)
}

// askedFault is the first fault of a command, of the fields that it uses.
func askedFault(c api.Cmd) api.Errno {
	p := askedPlain(c)
	if len(askedFields(c.Do)) == 0 {
		return api.ErrKind
	}
	if len(p.Sheet) > 65536 {
		return api.ErrLong
	}
	if len(p.Front) > 16 || len(p.Up.Row) > 16 {
		return api.ErrMany
	}
	for _, v := range p.Up.Row {
		if v.Kind != 0 && v.Kind != 1 {
			return api.ErrKind
		}
		if v.Kind == 1 && len(v.Str) > 4096 {
			return api.ErrLong
		}
	}
	return api.OK
}

// askedNumber cuts a number's digits of base two into groups of seven.
func askedNumber(n *big.Int) []byte {
	digits := n.Text(2)
	digits = strings.Repeat("0", (7-len(digits)%7)%7) + digits
	var b []byte
	for len(digits) > 0 {
		ahead := "1"
		if len(digits) == 7 {
			ahead = "0"
		}
		x, _ := strconv.ParseUint(ahead+digits[:7], 2, 8)
		b, digits = append(b, byte(x)), digits[7:]
	}
	return b
}

// askedInt is a number with a sign: 2n, or -2n - 1.
func askedInt(n int) []byte {
	x := new(big.Int).Mul(big.NewInt(int64(n)), big.NewInt(2))
	if n < 0 {
		x.Neg(x).Sub(x, big.NewInt(1))
	}
	return askedNumber(x)
}

func askedCount(n int) []byte { return askedNumber(big.NewInt(int64(n))) }

func askedTime(t api.Time) []byte { return join(askedInt(t.Epoch), askedInt(t.Round)) }

func askedRow(row api.Row) []byte {
	b := askedCount(len(row))
	for _, v := range row {
		if v.Kind == api.KindStr {
			b = join(b, []byte{1}, askedCount(len(v.Str)), []byte(v.Str))
		} else {
			b = join(b, []byte{byte(v.Kind)}, askedInt(v.Int))
		}
	}
	return b
}

func askedFront(f []api.Time) []byte {
	b := askedCount(len(f))
	for _, t := range f {
		b = append(b, askedTime(t)...)
	}
	return b
}

// askedPart is a field's bytes.
func askedPart(c api.Cmd, name string) []byte {
	switch name {
	case "Sheet":
		return join(askedCount(len(c.Sheet)), c.Sheet)
	case "Node":
		return askedInt(c.Node)
	case "Fuel":
		return askedInt(c.Fuel)
	case "Row":
		return askedRow(c.Up.Row)
	case "Time":
		return askedTime(c.Up.Time)
	case "Diff":
		return askedInt(c.Up.Diff)
	case "Front":
		return askedFront(c.Front)
	}
	panic(name)
}

// askedBytes are a command's bytes, also of one that may not be told.
func askedBytes(c api.Cmd) []byte {
	b := []byte{byte(c.Do)}
	for _, name := range askedFields(c.Do) {
		b = append(b, askedPart(c, name)...)
	}
	return b
}

// askedList are the bytes of commands, also of such as may not be told.
func askedList(l []api.Cmd) []byte {
	b := askedCount(len(l))
	for _, c := range l {
		b = append(b, askedBytes(c)...)
	}
	return b
}

// taker takes things off bytes; once it can't it takes nothing any more.
type taker struct {
	rest []byte
	bad  bool
}

func (k *taker) fail() {
	k.rest, k.bad = nil, true
}

// byte takes one, of those below a bound.
func (k *taker) byte(below int) int {
	if len(k.rest) == 0 || int(k.rest[0]) >= below {
		k.fail()
		return 0
	}
	x := int(k.rest[0])
	k.rest = k.rest[1:]
	return x
}

// number takes one that is told in the one way in which it may be.
func (k *taker) number() *big.Int {
	digits := ""
	for i, x := range k.rest[:min(len(k.rest), 10)] { // ten groups are more than there are bits
		s := fmt.Sprintf("%08b", x)
		digits += s[1:]
		if s[0] == '1' {
			continue
		}
		n, _ := new(big.Int).SetString(digits, 2)
		if n.BitLen() > 64 || !bytes.Equal(askedNumber(n), k.rest[:i+1]) {
			break
		}
		k.rest = k.rest[i+1:]
		return n
	}
	k.fail()
	return new(big.Int)
}

func (k *taker) count(most int) int {
	n := k.number()
	if n.Cmp(big.NewInt(int64(most))) > 0 {
		k.fail()
		return 0
	}
	return int(n.Int64())
}

func (k *taker) int() int {
	x := k.number()
	if x.Bit(0) == 1 {
		x.Add(x, big.NewInt(1)).Neg(x)
	}
	return int(new(big.Int).Quo(x, big.NewInt(2)).Int64())
}

func (k *taker) text(most int) string {
	count := k.count(most)
	if count > len(k.rest) {
		k.fail()
		return ""
	}
	s := string(k.rest[:count])
	k.rest = k.rest[count:]
	return s
}

func (k *taker) time() api.Time {
	epoch := k.int()
	return pair(epoch, k.int())
}

func (k *taker) row() api.Row {
	var l api.Row
	for range k.count(16) {
		v := api.Val{Kind: k.byte(2)}
		if v.Kind == 1 {
			v.Str = k.text(4096)
		} else {
			v.Int = k.int()
		}
		l = append(l, v)
	}
	return l
}

func (k *taker) front() []api.Time {
	var l []api.Time
	for range k.count(16) {
		l = append(l, k.time())
	}
	return l
}

func (k *taker) command() api.Cmd {
	c := api.Cmd{Do: k.byte(7)}
	for _, name := range askedFields(c.Do) {
		switch name {
		case "Sheet":
			c.Sheet = []byte(k.text(65536))
		case "Node":
			c.Node = k.int()
		case "Fuel":
			c.Fuel = k.int()
		case "Row":
			c.Up.Row = k.row()
		case "Time":
			c.Up.Time = k.time()
		case "Diff":
			c.Up.Diff = k.int()
		case "Front":
			c.Front = k.front()
		}
	}
	return c
}

// askedGet is what is got at a place.
func askedGet(b []byte, at int) (c api.Cmd, next int, e api.Errno) {
	if at < 0 || at > len(b) {
		return api.Cmd{}, 0, api.ErrRange
	}
	k := &taker{rest: b[at:]}
	c = k.command()
	if k.bad {
		return api.Cmd{}, 0, api.ErrForm
	}
	return c, len(b) - len(k.rest), api.OK
}

func askedGetFront(b []byte, at int) (f []api.Time, next int, e api.Errno) {
	if at < 0 || at > len(b) {
		return nil, 0, api.ErrRange
	}
	k := &taker{rest: b[at:]}
	f = k.front()
	if k.bad {
		return nil, 0, api.ErrForm
	}
	return f, len(b) - len(k.rest), api.OK
}

// askedDecode is what is told of a list's bytes.
func askedDecode(b []byte) (l []api.Cmd, e api.Errno, at int) {
	k := &taker{rest: b}
	count := k.count(4096)
	if k.bad {
		return nil, api.ErrForm, 0
	}
	for range count {
		at = len(b) - len(k.rest)
		l = append(l, k.command())
		if k.bad {
			return nil, api.ErrForm, at
		}
	}
	if len(k.rest) > 0 {
		return nil, api.ErrForm, len(b) - len(k.rest)
	}
	return l, api.OK, len(b)
}

// holdTold holds a command against its bytes, both ways.
func holdTold(t *testing.T, name string, c api.Cmd, want []byte) {
	t.Helper()
	plain := askedPlain(c)
	if got := wire.Plain(c); !same(got, plain) {
		t.Errorf("%s: Plain = %s, want %s", name, brief(got), brief(plain))
	}
	if e := wire.Check(c); e != api.OK {
		t.Errorf("%s: Check = %d", name, e)
	}
	for _, of := range []api.Cmd{c, plain} {
		if got, e := wire.Put(nil, of); e != api.OK || !bytes.Equal(got, want) {
			t.Errorf("%s: Put = %s, %d, want %s", name, short(got), e, short(want))
		}
		if got, e := wire.Encode([]api.Cmd{of}); e != api.OK || !bytes.Equal(got, join([]byte{1}, want)) {
			t.Errorf("%s: Encode = %s, %d, want 01 and %s", name, short(got), e, short(want))
		}
	}
	holdGot(t, name, want, 0, plain, len(want))
	if l, e, at := wire.Decode(join([]byte{1}, want)); e != api.OK || at != 1+len(want) || !sameAll(l, []api.Cmd{plain}) {
		t.Errorf("%s: Decode = %s, %d, %d", name, brief(l), e, at)
	}
}

// holdGot holds what is got against a command and the place behind it.
func holdGot(t *testing.T, name string, b []byte, at int, want api.Cmd, next int) {
	t.Helper()
	c, behind, e := wire.Get(b, at)
	if e != api.OK || behind != next || !same(c, want) {
		t.Errorf("%s: Get(%s, %d) = %s, %d, %d, want %s, %d", name, short(b), at, brief(c), behind, e, brief(want), next)
	}
	if plain := wire.Plain(c); !same(plain, c) {
		t.Errorf("%s: Plain of what is got is %s, not %s", name, brief(plain), brief(c))
	}
}

// holdWrong holds a command that may not be told against its error: no bytes are told.
func holdWrong(t *testing.T, name string, c api.Cmd, want api.Errno) {
	t.Helper()
	if e := wire.Check(c); e != want {
		t.Errorf("%s: Check = %d, want %d", name, e, want)
	}
	for _, ahead := range [][]byte{nil, []byte("ahead")} {
		if b, e := wire.Put(ahead, c); e != want || len(b) != 0 {
			t.Errorf("%s: Put = %s, %d, want nothing, %d", name, short(b), e, want)
		}
	}
	if b, e := wire.Encode([]api.Cmd{c}); e != want || len(b) != 0 {
		t.Errorf("%s: Encode = %s, %d, want nothing, %d", name, short(b), e, want)
	}
	if got, plain := wire.Plain(c), askedPlain(c); !same(got, plain) {
		t.Errorf("%s: Plain = %s, want %s", name, brief(got), brief(plain))
	}
}

// holdNone holds a place at which no command is told against its error.
func holdNone(t *testing.T, name string, b []byte, at int, want api.Errno) {
	t.Helper()
	if c, next, e := wire.Get(b, at); e != want || next != 0 || !isZero(c) {
		t.Errorf("%s: Get(%s, %d) = %s, %d, %d, want nothing, 0, %d", name, short(b), at, brief(c), next, e, want)
	}
}

// holdNoFront does so for frontiers.
func holdNoFront(t *testing.T, name string, b []byte, at int, want api.Errno) {
	t.Helper()
	if f, next, e := wire.GetFront(b, at); e != want || next != 0 || len(f) != 0 {
		t.Errorf("%s: GetFront(%s, %d) = %v, %d, %d, want nothing, 0, %d", name, short(b), at, f, next, e, want)
	}
}

// holdNoList holds bytes that are no list of commands against the place of the fault.
func holdNoList(t *testing.T, name string, b []byte, want int) {
	t.Helper()
	if l, e, at := wire.Decode(b); e != api.ErrForm || at != want || len(l) != 0 {
		t.Errorf("%s: Decode(%s) = %s, %d, %d, want nothing, ErrForm, %d", name, short(b), brief(l), e, at, want)
	}
}

// hold holds what is told of a command against what is asked.
func hold(t *testing.T, c api.Cmd) api.Errno {
	t.Helper()
	want := askedFault(c)
	if want == api.OK {
		holdTold(t, brief(c), c, askedBytes(c))
	} else {
		holdWrong(t, brief(c), c, want)
	}
	return want
}

// holdBytes holds what is got at a place, and decoded, against what is asked: what is told is told as the same bytes again.
func holdBytes(t *testing.T, b []byte, at int) api.Errno {
	t.Helper()
	want, next, e := askedGet(b, at)
	if e == api.OK {
		holdGot(t, "bytes", b, at, want, next)
		c, _, _ := wire.Get(b, at)
		if again, e := wire.Put(b[:at], c); e != api.OK || !bytes.Equal(again, b[:next]) {
			t.Errorf("what is got of %s at %d is put as %s, %d", short(b), at, short(again), e)
		}
	} else {
		holdNone(t, "bytes", b, at, e)
	}
	front, behind, fault := askedGetFront(b, at)
	f, last, told := wire.GetFront(b, at)
	if told != fault || last != behind || !slices.Equal(f, front) {
		t.Errorf("GetFront(%s, %d) = %v, %d, %d, want %v, %d, %d", short(b), at, f, last, told, front, behind, fault)
	}
	if told == api.OK && !bytes.Equal(wire.PutFront(b[:at], f), b[:last]) {
		t.Errorf("the frontier of %s at %d is put as %s", short(b), at, short(wire.PutFront(b[:at], f)))
	}
	return e
}

// holdList holds what is decoded against what is asked.
func holdList(t *testing.T, b []byte) api.Errno {
	t.Helper()
	want, e, place := askedDecode(b)
	l, told, at := wire.Decode(b)
	if told != e || at != place || !sameAll(l, want) {
		t.Errorf("Decode(%s) = %s, %d, %d, want %s, %d, %d", short(b), brief(l), told, at, brief(want), e, place)
	}
	if told != api.OK {
		return told
	}
	if again, e := wire.Encode(l); e != api.OK || !bytes.Equal(again, b) {
		t.Errorf("Decode(%s) is encoded as %s, %d", short(b), short(again), e)
	}
	return told
}

package wire_test

import (
	"bytes"
	"slices"
	"strings"
	"testing"

	"runnel/api"
	"runnel/wire"
)

// chance tells numbers that follow from one alone: the same ones whenever it is made.
type chance uint64

func (x *chance) below(bound int) int {
	*x = *x*6364136223846793005 + 1442695040888963407
	return int(uint64(*x)>>33) % bound
}

// number is any, mostly a small one.
func (x *chance) number() int {
	switch x.below(8) {
	case 0:
		return []int{low, low + 1, high, high - 1, -65, -64, 63, 64, 8191, 8192}[x.below(10)]
	case 1:
		n := (x.below(1<<31)<<31 | x.below(1<<31)) >> x.below(62)
		return n - 2*n*x.below(2)
	}
	return x.below(40) - 4
}

// count is how many there are, seldom more than may be.
func (x *chance) count(most int) int {
	switch x.below(60) {
	case 0:
		return most + 1
	case 1:
		return most
	case 2:
		return most + x.below(5*most)
	}
	return x.below(min(most, 5) + 1)
}

func (x *chance) bytes(count int) []byte {
	b := make([]byte, count)
	for i := range b {
		b[i] = byte(x.below(256))
	}
	return b
}

func (x *chance) time() api.Time { return pair(x.number(), x.number()) }

func (x *chance) val() api.Val {
	v := api.Val{Kind: x.below(2), Int: x.number(), Str: string(x.bytes(x.below(6)))}
	switch x.below(100) {
	case 0:
		v.Kind = x.number()
	case 1:
		v.Str = strings.Repeat("y", 4090+x.below(12))
	}
	return v
}

// command is one with all fields set, often one that may be told.
func (x *chance) command(do int) api.Cmd {
	c := api.Cmd{Do: do, Node: x.number(), Fuel: x.number(), Up: api.Up{Time: x.time(), Diff: x.number()}}
	c.Up.Row = make(api.Row, x.count(16))
	for i := range c.Up.Row {
		c.Up.Row[i] = x.val()
	}
	c.Front = make([]api.Time, x.count(16))
	for i := range c.Front {
		c.Front[i] = x.time()
	}
	c.Sheet = x.bytes(x.below(12))
	if x.below(200) == 0 {
		c.Sheet = make([]byte, 65530+x.below(12))
	}
	return c
}

// commands are some of all kinds that may be told.
func (x *chance) commands(count int) []api.Cmd {
	var l []api.Cmd
	for len(l) < count {
		if c := x.command(x.below(7)); askedFault(c) == api.OK {
			l = append(l, c)
		}
	}
	return l
}

func TestDrawnCommands(t *testing.T) { // P26.1, P26.2: each of the seven in turn, and some that are none
	x := chance(26)
	seen := map[api.Errno]int{}
	for i := range 9000 {
		do := i % 9
		if do > 6 {
			do = x.number()
		}
		c := x.command(do)
		e := hold(t, c)
		seen[e]++
		if e != api.OK {
			continue
		}
		ahead, behind, b := x.bytes(x.below(20)), x.bytes(x.below(20)), askedBytes(c)
		if got, e := wire.Put(ahead, c); e != api.OK || !bytes.Equal(got, join(ahead, b)) {
			t.Errorf("%s behind %x: %s, %d", brief(c), ahead, short(got), e)
		}
		holdGot(t, "ahead of others and behind", join(ahead, b, behind), len(ahead), askedPlain(c), len(ahead)+len(b))
	}
	if seen[api.OK] < 5000 || seen[api.ErrKind] < 200 || seen[api.ErrMany] < 100 || seen[api.ErrLong] < 10 {
		t.Error(seen)
	}
}

func TestDrawnFronts(t *testing.T) { // P26.2
	x := chance(5)
	for range 4000 {
		f := make([]api.Time, x.count(16))
		for i := range f {
			f[i] = x.time()
		}
		ahead, behind := x.bytes(x.below(9)), x.bytes(x.below(9))
		b := wire.PutFront(ahead, f)
		if !bytes.Equal(b, join(ahead, askedFront(f))) {
			t.Errorf("PutFront of %v behind %x: %s", f, ahead, short(b))
		}
		got, next, e := wire.GetFront(join(b, behind), len(ahead))
		if len(f) > 16 {
			holdNoFront(t, "too many", join(b, behind), len(ahead), api.ErrForm)
		} else if e != api.OK || next != len(b) || !slices.Equal(got, f) {
			t.Errorf("GetFront of %v: %v, %d, %d", f, got, next, e)
		}
	}
}

func TestDrawnLists(t *testing.T) { // P26.3, P26.4: what is encoded is decoded as Plain of each
	x := chance(4)
	for range 800 {
		l := x.commands(x.below(30))
		b, e := wire.Encode(l)
		if e != api.OK || !bytes.Equal(b, askedList(l)) {
			t.Fatalf("Encode: %s, %d", short(b), e)
		}
		m, e, at := wire.Decode(b)
		if e != api.OK || at != len(b) || len(m) != len(l) {
			t.Fatalf("Decode: %s, %d, %d", brief(m), e, at)
		}
		for i := range l {
			if !same(m[i], wire.Plain(l[i])) || !same(m[i], askedPlain(l[i])) {
				t.Errorf("command %d: %s, not %s", i, brief(m[i]), brief(wire.Plain(l[i])))
			}
		}
		if again, e := wire.Encode(m); e != api.OK || !bytes.Equal(again, b) {
			t.Errorf("encoded again: %s, %d", short(again), e)
		}
	}
}

func TestDrawnListsWithFaults(t *testing.T) { // P26.3: the first error of several
	x := chance(44)
	seen := map[api.Errno]int{}
	for range 3000 {
		l := x.commands(x.below(5))
		for range x.below(4) {
			l = slices.Insert(l, x.below(len(l)+1), x.command(x.below(8)))
		}
		want := api.OK
		for _, c := range slices.Backward(l) {
			if e := askedFault(c); e != api.OK {
				want = e
			}
		}
		seen[want]++
		b, e := wire.Encode(l)
		if e != want || want != api.OK && len(b) != 0 || want == api.OK && !bytes.Equal(b, askedList(l)) {
			t.Errorf("Encode of %s: %s, %d, want %d", brief(l), short(b), e, want)
		}
	}
	if seen[api.OK] < 1000 || seen[api.ErrKind] < 100 || seen[api.ErrMany] < 30 || seen[api.ErrLong] < 5 {
		t.Error(seen)
	}
}

// spoil changes something of bytes that are its own.
func (x *chance) spoil(b []byte) []byte {
	at := x.below(len(b))
	switch x.below(5) {
	case 0:
		b[at] = byte(x.below(256))
	case 1:
		b[at] ^= 1 << x.below(8)
	case 2:
		b = slices.Delete(b, at, min(len(b), at+1+x.below(3)))
	case 3:
		b = slices.Insert(b, at, byte(x.below(256)))
	case 4:
		other := x.below(len(b))
		b[at], b[other] = b[other], b[at]
	}
	return b
}

func TestDrawnBytes(t *testing.T) { // P26.2 to P26.4: bytes that are nearly commands', and such as are nothing's
	x := chance(71)
	seen := map[api.Errno]int{}
	for range 6000 {
		b := askedList(x.commands(x.below(4)))
		for range 1 + x.below(2) {
			if len(b) > 0 {
				b = x.spoil(b)
			}
		}
		seen[holdList(t, b)]++
		holdBytes(t, b, x.below(len(b)+3)-1)
		b = x.bytes(x.below(12))
		for i := range b {
			b[i] %= 8
		}
		holdList(t, b)
		holdBytes(t, b, x.below(len(b)+1))
	}
	if seen[api.OK] < 500 || seen[api.ErrForm] < 500 {
		t.Error(seen)
	}
}

func TestBytesChangedAtOnePlace(t *testing.T) { // P26.4: every byte to every other one
	b := askedList(append(each(), insert(300, up(r("xyz", -300, ""), 5, 128, 1)), compact(2, pair(1, 200), pair(3, 4), pair(5, 6))))
	good := 0
	for i := range b {
		for x := range 256 {
			spoilt := slices.Clone(b)
			spoilt[i] = byte(x)
			if holdList(t, spoilt) == api.OK {
				good++
			}
		}
	}
	if good < 1000 {
		t.Error(good)
	}
}

func TestEveryShortList(t *testing.T) { // P26.2 to P26.4: all short bytes of a few
	good := 0
	var all func(b []byte, left int)
	all = func(b []byte, left int) {
		if holdList(t, b) == api.OK {
			good++
		}
		holdBytes(t, b, 0)
		if left == 0 {
			return
		}
		for _, x := range []byte{0, 1, 2, 3, 4, 5, 6, 7, 0x7f, 0x80, 0x81, 0xff} {
			all(append(slices.Clip(b), x), left-1)
		}
	}
	all(nil, 4)
	if good < 50 {
		t.Error(good)
	}
}

func FuzzCommands(f *testing.F) { // P26.2 to P26.4
	f.Add(askedList(each()), 1)
	f.Add(askedList(nil), 0)
	for _, c := range each() {
		f.Add(askedBytes(c), 0)
		f.Add(join([]byte("ahead"), askedBytes(c), []byte("behind")), 5)
	}
	f.Add(askedFront(rising(16)), 0)
	f.Add(askedFront(rising(17)), 0)
	f.Add([]byte{}, -1)
	f.Fuzz(func(t *testing.T, b []byte, at int) {
		holdList(t, b)
		holdBytes(t, b, at)
		holdBytes(t, b, 0)
	})
}

package num_test

import (
	"bytes"
	"math"
	"strings"
	"testing"

	"runnel/api"
	"runnel/num"
)

// numbers are those at both sides of each power of two, 300, and the ends.
func numbers() []uint64 {
	ns := []uint64{0, 300, math.MaxUint64}
	for bit := range 64 {
		p := uint64(1) << bit
		ns = append(ns, p-1, p, p+1)
	}
	return ns
}

// ints are those at both sides of each power of two, with either sign, and the ends.
func ints() []int {
	ns := []int{0, math.MinInt, math.MinInt + 1, math.MaxInt, math.MaxInt - 1}
	for bit := range 63 {
		p := 1 << bit
		ns = append(ns, p-1, p, p+1, -p-1, -p, -p+1)
	}
	return ns
}

func texts() []string {
	return []string{"", "a", "\x00", "\x80\xff", "ä€", strings.Repeat("x", 127), strings.Repeat("y", 128), strings.Repeat("z", api.MaxText)}
}

// groups tells a number as P1.1 says it, by division: the least group is found first.
func groups(n uint64) []byte {
	told := []byte{byte(n % 128)}
	for n /= 128; n > 0; n /= 128 {
		told = append([]byte{byte(n%128) + 128}, told...)
	}
	return told
}

// roomy is bytes with spare room that is told from noughts.
func roomy(b []byte) []byte {
	room := append(bytes.Clone(b), "the spare room of it"...)
	return room[:len(b)]
}

func TestKnownNumbers(t *testing.T) { // P1.1
	for _, c := range []struct {
		n    uint64
		told []byte
	}{
		{0, []byte{0}},
		{1, []byte{1}},
		{127, []byte{0x7f}},
		{128, []byte{0x81, 0x00}},
		{300, []byte{0x82, 0x2c}},
		{1<<14 - 1, []byte{0xff, 0x7f}},
		{1 << 14, []byte{0x81, 0x80, 0x00}},
		{1<<63 - 1, []byte{0xff, 0xff, 0xff, 0xff, 0xff, 0xff, 0xff, 0xff, 0x7f}},
		{1 << 63, []byte{0x81, 0x80, 0x80, 0x80, 0x80, 0x80, 0x80, 0x80, 0x80, 0x00}},
		{math.MaxUint64, []byte{0x81, 0xff, 0xff, 0xff, 0xff, 0xff, 0xff, 0xff, 0xff, 0x7f}},
	} {
		if b := num.Put(nil, c.n); !bytes.Equal(b, c.told) {
			t.Errorf("Put %d: %x, not %x", c.n, b, c.told)
		}
		if n, next, e := num.Get(c.told, 0); n != c.n || next != len(c.told) || e != api.OK {
			t.Errorf("Get %x: %d, %d, %d", c.told, n, next, e)
		}
	}
}

func TestNumbers(t *testing.T) { // P1.1
	for _, n := range numbers() {
		want := groups(n)
		if num.Size(n) != len(want) {
			t.Errorf("Size %d: %d, not %d", n, num.Size(n), len(want))
		}
		for _, ahead := range [][]byte{nil, {}, {0}, {0x80}, []byte("ahead")} {
			if b := num.Put(ahead, n); !bytes.Equal(b, append(bytes.Clone(ahead), want...)) {
				t.Errorf("Put %d behind %x: %x", n, ahead, b)
			}
		}
	}
}

func TestGetRefusesForm(t *testing.T) { // P1.1
	full := num.Put(nil, math.MaxUint64)
	for _, b := range [][]byte{
		nil,
		{},
		{0x80},
		{0x80, 0x00},
		{0x80, 0x01},
		{0x80, 0x80, 0x01},
		{0x80, 0x81, 0x00},
		append([]byte{0x80}, full...),
		{0x81},
		{0xff, 0xff},
		{0x82, 0x80, 0x80, 0x80, 0x80, 0x80, 0x80, 0x80, 0x80, 0x00},             // 2^64
		{0x83, 0xff, 0xff, 0xff, 0xff, 0xff, 0xff, 0xff, 0xff, 0x7f},             // 2^65 - 1
		{0xff, 0xff, 0xff, 0xff, 0xff, 0xff, 0xff, 0xff, 0xff, 0x7f},             // ten full groups
		{0x81, 0x80, 0x80, 0x80, 0x80, 0x80, 0x80, 0x80, 0x80, 0x80, 0x00},       // 2^70
		{0x81, 0x80, 0x80, 0x80, 0x80, 0x80, 0x80, 0x80, 0x80, 0x80, 0x80, 0x05}, // its high bits are shifted out
		bytes.Repeat([]byte{0xff}, 1000),
		bytes.Repeat([]byte{0x80}, 1000),
	} {
		for _, ahead := range [][]byte{nil, {0}, {0x81, 0x80, 0x80}} {
			whole := append(bytes.Clone(ahead), b...)
			if n, next, e := num.Get(whole, len(ahead)); n != 0 || next != 0 || e != api.ErrForm {
				t.Errorf("Get %x at %d: %d, %d, %d", whole, len(ahead), n, next, e)
			}
		}
	}
}

func TestGetRefusesWhatIsCutOff(t *testing.T) { // P1.1
	for _, n := range numbers() {
		b := num.Put(nil, n)
		for size := range len(b) {
			// What lies in the spare room behind is no part of it.
			if m, next, e := num.Get(b[:size], 0); m != 0 || next != 0 || e != api.ErrForm {
				t.Errorf("Get %x: %d, %d, %d", b[:size], m, next, e)
			}
		}
	}
}

func TestPlaces(t *testing.T) { // P1.1, P1.2, P1.3
	b := []byte{0, 1, 'a'}
	for _, c := range []struct {
		b    []byte
		at   int
		want api.Errno
	}{
		{b, -1, api.ErrRange},
		{b, math.MinInt, api.ErrRange},
		{b, 4, api.ErrRange},
		{roomy(b), 4, api.ErrRange},
		{b, math.MaxInt, api.ErrRange},
		{nil, -1, api.ErrRange},
		{nil, 1, api.ErrRange},
		{b, 3, api.ErrForm},
		{roomy(b), 3, api.ErrForm},
		{nil, 0, api.ErrForm},
	} {
		if n, next, e := num.Get(c.b, c.at); n != 0 || next != 0 || e != c.want {
			t.Errorf("Get %x at %d: %d, %d, %d", c.b, c.at, n, next, e)
		}
		if n, next, e := num.GetInt(c.b, c.at); n != 0 || next != 0 || e != c.want {
			t.Errorf("GetInt %x at %d: %d, %d, %d", c.b, c.at, n, next, e)
		}
		if s, next, e := num.GetText(c.b, c.at, 9); s != "" || next != 0 || e != c.want {
			t.Errorf("GetText %x at %d: %q, %d, %d", c.b, c.at, s, next, e)
		}
	}
}

func TestKnownInts(t *testing.T) { // P1.2
	for _, c := range []struct {
		n    int
		told uint64
	}{
		{0, 0},
		{-1, 1},
		{1, 2},
		{-2, 3},
		{2, 4},
		{63, 126},
		{-64, 127},
		{64, 128},
		{-65, 129},
		{math.MaxInt, math.MaxUint64 - 1},
		{math.MinInt, math.MaxUint64},
	} {
		b := num.PutInt(nil, c.n)
		if !bytes.Equal(b, groups(c.told)) {
			t.Errorf("PutInt %d: %x, not %x", c.n, b, groups(c.told))
		}
		if n, next, e := num.GetInt(groups(c.told), 0); n != c.n || next != len(b) || e != api.OK {
			t.Errorf("GetInt %x: %d, %d, %d", groups(c.told), n, next, e)
		}
	}
}

func TestIntsAreNumbers(t *testing.T) { // P1.2
	for _, n := range ints() {
		told := uint64(n) * 2
		if n < 0 {
			told = -told - 1
		}
		for _, ahead := range [][]byte{nil, {0x80}, []byte("ahead")} {
			if b := num.PutInt(ahead, n); !bytes.Equal(b, append(bytes.Clone(ahead), groups(told)...)) {
				t.Errorf("PutInt %d behind %x: %x", n, ahead, b)
			}
		}
	}
}

func TestGetIntRefusesForm(t *testing.T) { // P1.2
	for _, b := range [][]byte{{0x80}, {0x80, 0x01}, {0x81}, {0x82, 0x80, 0x80, 0x80, 0x80, 0x80, 0x80, 0x80, 0x80, 0x00}} {
		if n, next, e := num.GetInt(b, 0); n != 0 || next != 0 || e != api.ErrForm {
			t.Errorf("GetInt %x: %d, %d, %d", b, n, next, e)
		}
	}
}

func TestTexts(t *testing.T) { // P1.3
	for _, s := range texts() {
		want := append(groups(uint64(len(s))), s...)
		for _, ahead := range [][]byte{nil, {0x80}, []byte("ahead")} {
			b := num.PutText(ahead, s)
			if !bytes.Equal(b, append(bytes.Clone(ahead), want...)) {
				t.Errorf("PutText of %d bytes behind %x: %x", len(s), ahead, b)
			}
			for _, most := range []int{len(s), len(s) + 1, math.MaxInt} {
				if got, next, e := num.GetText(b, len(ahead), most); got != s || next != len(b) || e != api.OK {
					t.Errorf("GetText of %d bytes, most %d: %q, %d, %d", len(s), most, got, next, e)
				}
			}
		}
	}
}

func TestGetTextRefuses(t *testing.T) { // P1.3
	greatest := groups(math.MaxUint64)
	greatInt := groups(math.MaxInt)
	for _, c := range []struct {
		what     string
		b        []byte
		at, most int
		want     api.Errno
	}{
		{"most below 0", []byte{0}, 0, -1, api.ErrArg},
		{"most below 0 by far", []byte{0}, 0, math.MinInt, api.ErrArg},
		{"most ahead of the place", []byte{0}, 2, -1, api.ErrArg},
		{"most ahead of the form", []byte{0x80, 1}, 0, -1, api.ErrArg},
		{"no place", []byte{0}, 2, 0, api.ErrRange},
		{"no size", nil, 0, 0, api.ErrForm},
		{"a size with noughts ahead", []byte{0x80, 1, 'a'}, 0, 9, api.ErrForm},
		{"a size that is cut off", []byte{0x81}, 0, 9, api.ErrForm},
		{"one more than most", []byte{1, 'a'}, 0, 0, api.ErrLong},
		{"longer than most", []byte{3, 'a', 'b', 'c'}, 0, 2, api.ErrLong},
		{"longer than most, and not there", []byte{3}, 0, 2, api.ErrLong},
		{"beyond an int", greatest, 0, math.MaxInt, api.ErrLong},
		{"2^63", groups(1 << 63), 0, math.MaxInt, api.ErrLong},
		{"the greatest int", greatInt, 0, math.MaxInt, api.ErrForm},
		{"the greatest int, longer than most", greatInt, 0, math.MaxInt - 1, api.ErrLong},
		{"not one is there", []byte{1}, 0, 1, api.ErrForm},
		{"one is missing", []byte{9, 3, 'a', 'b'}, 1, 3, api.ErrForm},
		{"one is missing, with spare room", roomy([]byte{3, 'a', 'b'}), 0, 3, api.ErrForm},
	} {
		if s, next, e := num.GetText(c.b, c.at, c.most); s != "" || next != 0 || e != c.want {
			t.Errorf("%s: %q, %d, %d", c.what, s, next, e)
		}
	}
}

func TestPutIsGot(t *testing.T) { // P1.4
	surroundings := [][]byte{nil, {0}, {0x80}, {0xff, 0xff}, []byte("some text")}
	for _, ahead := range surroundings {
		for _, behind := range surroundings {
			for _, n := range numbers() {
				b := num.Put(ahead, n)
				if m, next, e := num.Get(append(bytes.Clone(b), behind...), len(ahead)); m != n || next != len(b) || e != api.OK {
					t.Errorf("%d between %x and %x: %d, %d, %d", n, ahead, behind, m, next, e)
				}
			}
			for _, n := range ints() {
				b := num.PutInt(ahead, n)
				if m, next, e := num.GetInt(append(bytes.Clone(b), behind...), len(ahead)); m != n || next != len(b) || e != api.OK {
					t.Errorf("%d between %x and %x: %d, %d, %d", n, ahead, behind, m, next, e)
				}
			}
			for _, s := range texts() {
				b := num.PutText(ahead, s)
				if got, next, e := num.GetText(append(bytes.Clone(b), behind...), len(ahead), api.MaxText); got != s || next != len(b) || e != api.OK {
					t.Errorf("a text of %d bytes between %x and %x: %q, %d, %d", len(s), ahead, behind, got, next, e)
				}
			}
		}
	}
}

// holdGot holds what is got of bytes against what is put of it; it tells whether a number was got.
func holdGot(t *testing.T, b []byte, at int) bool {
	t.Helper()
	n, next, e := num.Get(b, at)
	if e == api.OK && !bytes.Equal(num.Put(b[:at], n), b[:next]) {
		t.Errorf("%x at %d: got %d up to %d, put %x", b, at, n, next, num.Put(nil, n))
	}
	i, intNext, intE := num.GetInt(b, at)
	if intNext != next || intE != e || e == api.OK && !bytes.Equal(num.PutInt(b[:at], i), b[:next]) {
		t.Errorf("%x at %d: got %d up to %d, put %x", b, at, i, intNext, num.PutInt(nil, i))
	}
	s, textNext, textE := num.GetText(b, at, math.MaxInt)
	if textE == api.OK && !bytes.Equal(num.PutText(b[:at], s), b[:textNext]) {
		t.Errorf("%x at %d: got %q up to %d", b, at, s, textNext)
	}
	return e == api.OK
}

func TestGotIsPut(t *testing.T) { // P1.4
	got := 0
	for i := range 1 << 16 {
		b := []byte{byte(i >> 8), byte(i)}
		for at := range 3 {
			if holdGot(t, b, at) {
				got++
			}
		}
	}
	// At 0: any of one group, or one of two without noughts ahead; at 1: any of one group; at 2: none.
	if want := 128*256 + 127*128 + 256*128; got != want {
		t.Errorf("%d were got, not %d", got, want)
	}
}

func FuzzGotIsPut(f *testing.F) { // P1.4
	f.Add([]byte{0x82, 0x2c}, 0)
	f.Add([]byte{9, 3, 'a', 'b', 'c', 0x80}, 1)
	f.Add(num.Put(nil, math.MaxUint64), 0)
	f.Add([]byte{0x82, 0x80, 0x80, 0x80, 0x80, 0x80, 0x80, 0x80, 0x80, 0x00}, 0)
	f.Fuzz(func(t *testing.T, b []byte, at int) { holdGot(t, b, at) })
}

func TestPutTakesNewMemory(t *testing.T) { // the rule of memory
	for name, put := range map[string]func(b []byte) []byte{
		"Put":           func(b []byte) []byte { return num.Put(b, 300) },
		"PutInt":        func(b []byte) []byte { return num.PutInt(b, -300) },
		"PutText":       func(b []byte) []byte { return num.PutText(b, "abc") },
		"PutText empty": func(b []byte) []byte { return num.PutText(b, "") },
	} {
		for _, ahead := range [][]byte{{}, []byte("ahead")} {
			in := roomy(ahead)
			whole := bytes.Clone(in[:cap(in)])
			first, second := put(in), put(in)
			want := bytes.Clone(first)
			if !bytes.Equal(in[:cap(in)], whole) {
				t.Errorf("%s changes what is handed in, or its spare room", name)
			}
			scribble(first)
			if !bytes.Equal(in[:cap(in)], whole) || !bytes.Equal(second, want) {
				t.Errorf("%s: an answer shares memory with the argument or with another answer", name)
			}
			scribble(in)
			if !bytes.Equal(second, want) {
				t.Errorf("%s keeps what is handed in", name)
			}
		}
	}
}

// scribble writes over bytes and their spare room.
func scribble(b []byte) {
	b = b[:cap(b)]
	for i := range b {
		b[i] = 0xee
	}
}

func TestGetLeavesBytes(t *testing.T) { // the rule of memory
	b := roomy([]byte{3, 'a', 'b', 'c', 0x80, 1})
	whole := bytes.Clone(b[:cap(b)])
	for at := -1; at <= len(b)+1; at++ {
		num.Get(b, at)
		num.GetInt(b, at)
		num.GetText(b, at, 9)
	}
	if !bytes.Equal(b[:cap(b)], whole) {
		t.Error("what is handed in is changed")
	}
	s, _, _ := num.GetText(b, 0, 3)
	scribble(b)
	if s != "abc" {
		t.Errorf("the text shares memory with the bytes: %q", s)
	}
}

func TestNilIsEmpty(t *testing.T) { // the rule of memory
	if !bytes.Equal(num.Put(nil, 300), num.Put([]byte{}, 300)) ||
		!bytes.Equal(num.PutInt(nil, 300), num.PutInt([]byte{}, 300)) ||
		!bytes.Equal(num.PutText(nil, "abc"), num.PutText([]byte{}, "abc")) {
		t.Error("nil and empty bytes are told apart")
	}
}

package row_test

import (
	"bytes"
	"math"
	"slices"
	"strings"
	"testing"

	"runnel/api"
	"runnel/num"
	"runnel/row"
)

func n(x int) api.Val    { return api.Val{Kind: api.KindInt, Int: x} }
func s(x string) api.Val { return api.Val{Kind: api.KindStr, Str: x} }

// laden is the value with something in the fields that play no part.
func laden(v api.Val, i int) api.Val {
	if v.Kind != api.KindInt {
		v.Int = []int{math.MinInt, 7, -1}[i%3]
	}
	if v.Kind != api.KindStr {
		v.Str = []string{strings.Repeat("z", api.MaxText+1), "a", "b"}[i%3]
	}
	return v
}

func ladenRow(r api.Row) api.Row {
	l := make(api.Row, len(r))
	for i, v := range r {
		l[i] = laden(v, i)
	}
	return l
}

// rising are values, each ahead of those behind it.
func rising() []api.Val {
	return []api.Val{
		{Kind: math.MinInt}, {Kind: -1},
		n(math.MinInt), n(math.MinInt + 1), n(-256), n(-2), n(-1), n(0), n(1), n(2), n(255), n(256), n(math.MaxInt - 1), n(math.MaxInt),
		s(""), s("\x00"), s("\x00\x00"), s("\x00a"), s("A"), s("a"), s("a\x00"), s("aa"), s("ab"), s("b"), s("ba"),
		s("\x7f"), s("\x80"), s("\xc3\xa4"), s("\xff"), s("\xff\x00"), s("\xff\xff"),
		{Kind: 2}, {Kind: 3}, {Kind: 256}, {Kind: math.MaxInt},
	}
}

// risingRows are rows, each ahead of those behind it.
func risingRows() []api.Row {
	rows := []api.Row{{}}
	for _, v := range rising() {
		rows = append(rows, api.Row{v})
		for _, w := range []api.Val{n(math.MinInt), n(5), s(""), s("b")} {
			rows = append(rows, api.Row{v, w})
		}
		rows = append(rows, api.Row{v, s("b"), n(-3)}, api.Row{v, s("b"), n(-3), n(-3)}, api.Row{v, s("c"), n(math.MinInt)})
	}
	return rows
}

// good are rows that Check takes.
func good() []api.Row {
	full := s(strings.Repeat("t", api.MaxText))
	rows := []api.Row{
		nil,
		{n(5), s("a")},
		{s("a"), n(5)},
		{s(""), s(""), n(0)},
		{n(math.MinInt), n(math.MaxInt), n(-1), n(0), n(63), n(64), n(-64), n(-65)},
		{s("\x00\x01\xff"), s("ä€"), s(strings.Repeat("x", 127)), s(strings.Repeat("y", 128))},
		{full},
		make(api.Row, api.MaxCols),
		slices.Repeat(api.Row{full}, api.MaxCols),
		slices.Repeat(api.Row{n(math.MinInt), s("text")}, api.MaxCols/2),
	}
	for _, v := range rising() {
		if v.Kind == api.KindInt || v.Kind == api.KindStr {
			rows = append(rows, api.Row{v}, api.Row{s("ahead"), v, n(9)})
		}
	}
	return rows
}

// told is a row as P3.3 says it.
func told(r api.Row) []byte {
	b := []byte{byte(len(r))}
	for _, v := range r {
		if v.Kind == api.KindInt {
			b = num.PutInt(append(b, 0), v.Int)
		} else {
			b = num.PutText(append(b, 1), v.Str)
		}
	}
	return b
}

// roomyRow is a row with spare room that is told from zero values.
func roomyRow(r api.Row) api.Row {
	return append(slices.Clip(slices.Clone(r)), s("the spare"), s("room"), n(99))[:len(r)]
}

func roomyBytes(b []byte) []byte {
	return append(bytes.Clone(b), "the spare room of it"...)[:len(b)]
}

func equal(a, b api.Row) bool { return slices.Equal(a, b) }

func sign(i, k int) int {
	switch {
	case i < k:
		return -1
	case i > k:
		return 1
	}
	return 0
}

func TestCmp(t *testing.T) { // P3.1
	l := rising()
	for i, a := range l {
		for k, b := range l {
			if o := row.Cmp(a, b); o != sign(i, k) {
				t.Errorf("Cmp %v %v: %d", a, b, o)
			}
			if o := row.Cmp(laden(a, i), laden(b, k+1)); o != sign(i, k) {
				t.Errorf("Cmp of values %v %v, the other field filled: %d", a, b, o)
			}
		}
	}
}

func TestOtherKindsAreAlike(t *testing.T) { // P3.1
	for _, kind := range []int{math.MinInt, -1, 2, 3, math.MaxInt} {
		a, b := api.Val{Kind: kind, Int: 1, Str: "b"}, api.Val{Kind: kind, Int: 2, Str: "a"}
		if row.Cmp(a, b) != 0 || row.Cmp(b, a) != 0 || !row.Same(api.Row{a, a}, api.Row{b, b}) {
			t.Errorf("values of the kind %d are told apart", kind)
		}
		if row.Order(api.Row{a, n(1)}, api.Row{b, n(2)}) != -1 {
			t.Errorf("what stands behind values of the kind %d is not asked", kind)
		}
	}
}

func TestOrder(t *testing.T) { // P3.1
	if o := row.Order(api.Row{n(5)}, api.Row{s("a")}); o != -1 {
		t.Errorf("the page's example: %d", o)
	}
	l := risingRows()
	for i, a := range l {
		for k, b := range l {
			if o := row.Order(a, b); o != sign(i, k) {
				t.Errorf("Order %v %v: %d", a, b, o)
			}
			if same := row.Same(a, b); same != (i == k) {
				t.Errorf("Same %v %v: %t", a, b, same)
			}
			if o := row.Order(ladenRow(a), b); o != sign(i, k) {
				t.Errorf("Order %v %v, the other fields filled: %d", a, b, o)
			}
		}
	}
}

func TestOrderOfLongRows(t *testing.T) { // P3.1: also of rows that Check does not take
	long := slices.Repeat(api.Row{n(1)}, 4*api.MaxCols)
	longer := append(slices.Clone(long), api.Val{Kind: math.MinInt})
	if row.Order(long, longer) != -1 || row.Order(longer, long) != 1 || !row.Same(long, slices.Clone(long)) {
		t.Error("a long row that ends first is not ahead")
	}
	last := slices.Clone(long)
	last[len(last)-1] = n(0)
	if row.Order(last, longer) != -1 || row.Order(long, last) != 1 {
		t.Error("the last value of a long row is not asked")
	}
	text := strings.Repeat("t", 4*api.MaxText)
	if row.Cmp(s(text+"a"), s(text+"b")) != -1 || row.Cmp(s(text+"a"), s(text)) != 1 || row.Cmp(s(text), s(strings.Clone(text))) != 0 {
		t.Error("the ends of long texts are not asked")
	}
}

func TestOrderIsTotal(t *testing.T) { // P3.4
	var l []api.Row
	vals := []api.Val{n(-1), n(0), s(""), s("a"), {Kind: 2, Int: 1}, {Kind: 2, Str: "x"}, {Kind: -1}}
	for _, v := range vals {
		for _, w := range vals {
			l = append(l, api.Row{v, w})
		}
		l = append(l, api.Row{v})
	}
	l = append(l, nil, api.Row{})
	for _, a := range l {
		for _, b := range l {
			ab := row.Order(a, b)
			if ab != -row.Order(b, a) || row.Same(a, b) != (ab == 0) {
				t.Errorf("%v and %v are ordered otherwise the other way round", a, b)
			}
			for _, c := range l {
				if ab <= 0 && row.Order(b, c) <= 0 && row.Order(a, c) > 0 {
					t.Errorf("%v, %v, %v go round", a, b, c)
				}
				if ab == 0 && row.Order(a, c) != row.Order(b, c) {
					t.Errorf("%v and %v are the same, but not to %v", a, b, c)
				}
			}
		}
	}
}

func TestCheckTakes(t *testing.T) { // P3.2
	for i, r := range good() {
		if e := row.Check(r); e != api.OK {
			t.Errorf("row %d: %d", i, e)
		}
		if e := row.Check(ladenRow(r)); e != api.OK {
			t.Errorf("row %d, the other fields filled: %d", i, e)
		}
	}
}

// refused are rows with faults, and the first of their errors.
func refused() []struct {
	what string
	r    api.Row
	want api.Errno
} {
	long := s(strings.Repeat("t", api.MaxText+1))
	odd := api.Val{Kind: 2}
	full := make(api.Row, api.MaxCols)
	return []struct {
		what string
		r    api.Row
		want api.Errno
	}{
		{"a value too many", make(api.Row, api.MaxCols+1), api.ErrMany},
		{"far too many", make(api.Row, 1000), api.ErrMany},
		{"a value too many ahead of a kind", append(api.Row{odd}, full...), api.ErrMany},
		{"a value too many ahead of a long text", append(api.Row{long}, full...), api.ErrMany},
		{"the fault is in what is too many", append(slices.Clone(full), odd), api.ErrMany},
		{"kind 2", api.Row{odd}, api.ErrKind},
		{"kind -1", api.Row{{Kind: -1}}, api.ErrKind},
		{"the least kind", api.Row{{Kind: math.MinInt}}, api.ErrKind},
		{"the greatest kind", api.Row{{Kind: math.MaxInt}}, api.ErrKind},
		{"a kind that is a byte's 0", api.Row{{Kind: 256}}, api.ErrKind},
		{"a kind that is a byte's 1", api.Row{{Kind: 257}}, api.ErrKind},
		{"a kind that is 32 bits' 1", api.Row{{Kind: 1<<32 + 1}}, api.ErrKind},
		{"a kind ahead of its own long text", api.Row{{Kind: 2, Str: long.Str}}, api.ErrKind},
		{"one byte too long", api.Row{long}, api.ErrLong},
		{"far too long", api.Row{s(strings.Repeat("t", 100*api.MaxText))}, api.ErrLong},
		{"a long text first, then a kind", api.Row{n(1), long, odd}, api.ErrLong},
		{"a kind first, then a long text", api.Row{n(1), odd, long}, api.ErrKind},
		{"the last of all is long", append(slices.Clone(full[1:]), long), api.ErrLong},
		{"the last of all is odd", append(slices.Clone(full[1:]), odd), api.ErrKind},
	}
}

func TestRefused(t *testing.T) { // P3.2, P3.3
	for _, c := range refused() {
		if e := row.Check(c.r); e != c.want {
			t.Errorf("Check, %s: %d, not %d", c.what, e, c.want)
		}
		if b, e := row.Put([]byte("ahead"), c.r); len(b) != 0 || e != c.want {
			t.Errorf("Put, %s: %x, %d, not %d", c.what, b, e, c.want)
		}
	}
}

func TestFits(t *testing.T) { // P3.2
	r := api.Row{n(5), s("a"), n(6)}
	for _, c := range []struct {
		r     api.Row
		kinds []int
		want  bool
	}{
		{nil, nil, true},
		{api.Row{}, nil, true},
		{nil, []int{}, true},
		{nil, []int{0}, false},
		{r, nil, false},
		{r, []int{0, 1, 0}, true},
		{ladenRow(r), []int{0, 1, 0}, true},
		{r, []int{0, 1}, false},
		{r, []int{0, 1, 0, 0}, false},
		{r, []int{1, 1, 0}, false},
		{r, []int{0, 0, 0}, false},
		{r, []int{0, 1, 1}, false},
		{r, []int{0, 1, 2}, false},
		{r, []int{0, 257, 0}, false},
		{r, []int{0, -1, 0}, false},
		{api.Row{{Kind: 2}}, []int{0}, false},
		{api.Row{{Kind: 2}}, []int{1}, false},
		{api.Row{{Kind: 2}}, []int{2}, true},
		{make(api.Row, api.MaxCols), make([]int, api.MaxCols), true},
		{make(api.Row, 100), make([]int, 100), true},
		{make(api.Row, 100), make([]int, 99), false},
	} {
		if got := row.Fits(c.r, c.kinds); got != c.want {
			t.Errorf("Fits %v %v: %t", c.r, c.kinds, got)
		}
	}
}

func TestPart(t *testing.T) { // P3.2
	r := api.Row{n(5), s("a"), {Kind: 7}}
	for _, c := range []struct {
		r    api.Row
		cols []int
		want api.Row
	}{
		{nil, nil, nil},
		{r, nil, nil},
		{r, []int{}, nil},
		{r, []int{0}, api.Row{n(5)}},
		{r, []int{2}, api.Row{{Kind: 7}}},
		{r, []int{0, 1, 2}, r},
		{r, []int{2, 1, 0}, api.Row{{Kind: 7}, s("a"), n(5)}},
		{r, []int{1, 1, 0, 1}, api.Row{s("a"), s("a"), n(5), s("a")}},
		{r, make([]int, 100), slices.Repeat(api.Row{n(5)}, 100)},
	} {
		if got, e := row.Part(c.r, c.cols); !equal(got, c.want) || e != api.OK {
			t.Errorf("Part %v %v: %v, %d", c.r, c.cols, got, e)
		}
	}
}

func TestPartRefuses(t *testing.T) { // P3.2
	for _, r := range []api.Row{nil, {n(5)}, {n(5), s("a"), n(6)}, roomyRow(api.Row{n(5), s("a")})} {
		for _, col := range []int{-1, len(r), len(r) + 1, math.MinInt, math.MaxInt} {
			for _, cols := range [][]int{{col}, append(make([]int, min(len(r), 2)), col), {col, 0}} {
				if got, e := row.Part(r, cols); len(got) != 0 || e != api.ErrRange {
					t.Errorf("Part %v %v: %v, %d", r, cols, got, e)
				}
			}
		}
	}
}

func TestCut(t *testing.T) { // P3.2, P3.4
	rows := append(risingRows(), good()...)
	rows = append(rows, make(api.Row, 100), roomyRow(api.Row{n(5), s("a")}))
	for _, r := range rows {
		for key := range len(r) + 1 {
			k, rest, e := row.Cut(r, key)
			if !equal(k, r[:key]) || !equal(rest, r[key:]) || e != api.OK {
				t.Errorf("Cut %v at %d: %v, %v, %d", r, key, k, rest, e)
			}
			if joined := row.Join(k, rest); !row.Same(joined, r) {
				t.Errorf("%v cut at %d is joined to %v", r, key, joined)
			}
		}
		for _, key := range []int{-1, math.MinInt, len(r) + 1, math.MaxInt} {
			if k, rest, e := row.Cut(r, key); len(k) != 0 || len(rest) != 0 || e != api.ErrRange {
				t.Errorf("Cut %v at %d: %v, %v, %d", r, key, k, rest, e)
			}
		}
	}
}

func TestJoin(t *testing.T) { // P3.2
	a, b := api.Row{n(5), s("a")}, api.Row{s("b"), {Kind: 7}}
	for _, c := range []struct {
		l    []api.Row
		want api.Row
	}{
		{nil, nil},
		{[]api.Row{}, nil},
		{[]api.Row{nil}, nil},
		{[]api.Row{nil, {}, nil}, nil},
		{[]api.Row{a}, a},
		{[]api.Row{a, b}, api.Row{n(5), s("a"), s("b"), {Kind: 7}}},
		{[]api.Row{b, a}, api.Row{s("b"), {Kind: 7}, n(5), s("a")}},
		{[]api.Row{a, nil, a, {}}, api.Row{n(5), s("a"), n(5), s("a")}},
		{slices.Repeat([]api.Row{a}, 100), slices.Repeat(a, 100)},
	} {
		if got := row.Join(c.l...); !equal(got, c.want) {
			t.Errorf("Join %v: %v", c.l, got)
		}
	}
}

func TestKnownBytes(t *testing.T) { // P3.3
	for _, c := range []struct {
		r    api.Row
		want []byte
	}{
		{nil, []byte{0}},
		{api.Row{n(5), s("a")}, []byte{2, 0, 0x0a, 1, 1, 0x61}},
		{api.Row{s(""), n(-1), n(150)}, []byte{3, 1, 0, 0, 1, 0, 0x82, 0x2c}},
		{api.Row{n(math.MinInt)}, []byte{1, 0, 0x81, 0xff, 0xff, 0xff, 0xff, 0xff, 0xff, 0xff, 0xff, 0x7f}},
		{api.Row{n(math.MaxInt)}, []byte{1, 0, 0x81, 0xff, 0xff, 0xff, 0xff, 0xff, 0xff, 0xff, 0xff, 0x7e}},
		{api.Row{s("\x80\x00")}, []byte{1, 1, 2, 0x80, 0}},
		{make(api.Row, api.MaxCols), append([]byte{16}, make([]byte, 2*api.MaxCols)...)},
		{api.Row{s(strings.Repeat("t", api.MaxText))}, append([]byte{1, 1, 0xa0, 0}, strings.Repeat("t", api.MaxText)...)},
	} {
		if b, e := row.Put(nil, c.r); !bytes.Equal(b, c.want) || e != api.OK {
			t.Errorf("Put %v: %x, %d", c.r, b, e)
		}
		if r, next, e := row.Get(c.want, 0); !equal(r, c.r) || next != len(c.want) || e != api.OK {
			t.Errorf("Get %x: %v, %d, %d", c.want, r, next, e)
		}
	}
}

func TestPutIsGot(t *testing.T) { // P3.3, P3.4
	surroundings := [][]byte{nil, {}, {0}, {0x80}, {0xff, 0xff}, []byte("some text")}
	for i, r := range good() {
		for _, ahead := range surroundings {
			b, e := row.Put(ahead, ladenRow(r))
			if !bytes.Equal(b, append(bytes.Clone(ahead), told(r)...)) || e != api.OK {
				t.Errorf("row %d behind %x: %x, %d", i, ahead, b, e)
			}
			for _, behind := range surroundings {
				// Equal, not Same: the field that plays no part is zero in what is got.
				if got, next, e := row.Get(append(bytes.Clone(b), behind...), len(ahead)); !equal(got, r) || next != len(b) || e != api.OK {
					t.Errorf("row %d between %x and %x: %v, %d, %d", i, ahead, behind, got, next, e)
				}
			}
		}
	}
}

func TestRowsInARow(t *testing.T) { // P3.4
	var b []byte
	for _, r := range good() {
		b, _ = row.Put(b, r)
	}
	at := 0
	for i, r := range good() {
		got, next, e := row.Get(b, at)
		if !equal(got, r) || e != api.OK {
			t.Fatalf("row %d at %d: %v, %d", i, at, got, e)
		}
		at = next
	}
	if at != len(b) {
		t.Errorf("%d bytes are left", len(b)-at)
	}
}

func TestGetRefusesPlaces(t *testing.T) { // P3.3
	b := []byte{1, 0, 10, 0}
	for _, c := range []struct {
		b    []byte
		at   int
		want api.Errno
	}{
		{b, -1, api.ErrRange},
		{b, math.MinInt, api.ErrRange},
		{b, 5, api.ErrRange},
		{roomyBytes(b), 5, api.ErrRange},
		{b, math.MaxInt, api.ErrRange},
		{nil, -1, api.ErrRange},
		{nil, 1, api.ErrRange},
		{b, 4, api.ErrForm},
		{roomyBytes(b), 4, api.ErrForm},
		{nil, 0, api.ErrForm},
	} {
		if r, next, e := row.Get(c.b, c.at); len(r) != 0 || next != 0 || e != c.want {
			t.Errorf("Get %x at %d: %v, %d, %d", c.b, c.at, r, next, e)
		}
	}
}

func TestGetRefusesForm(t *testing.T) { // P3.3
	great := num.Put(nil, math.MaxUint64)
	for what, b := range map[string][]byte{
		"no byte":                            {},
		"a count that is cut off":            {0x81},
		"a count with noughts ahead":         {0x80, 1, 0, 0},
		"a count of 0 with noughts ahead":    {0x80, 0},
		"a count beyond 2^64":                {0x82, 0x80, 0x80, 0x80, 0x80, 0x80, 0x80, 0x80, 0x80, 0x00},
		"a value too many":                   append([]byte{17}, make([]byte, 34)...),
		"a value too many, none there":       {17},
		"128 values":                         append([]byte{0x81, 0}, make([]byte, 256)...),
		"as many values as can be said":      append(slices.Clone(great), make([]byte, 99)...),
		"a count that is 0 to 32 bits":       append(num.Put(nil, 1<<32), make([]byte, 99)...),
		"a count that is 0 to a byte":        append(num.Put(nil, 256), make([]byte, 999)...),
		"no value":                           {1},
		"one value of two":                   {2, 0, 10},
		"a kind alone":                       {1, 0},
		"a text's kind alone":                {1, 1},
		"kind 2":                             {1, 2, 0},
		"kind 2 with a text":                 {1, 2, 1, 'a'},
		"kind 255":                           {1, 255, 0},
		"kind 0 in two groups":               {1, 0x80, 0, 0},
		"a second kind that is neither":      {2, 0, 10, 3, 1, 'a'},
		"a number that is cut off":           {1, 0, 0x81},
		"a number with noughts ahead":        {1, 0, 0x80, 1},
		"a number beyond 2^64":               append([]byte{1, 0}, 0x82, 0x80, 0x80, 0x80, 0x80, 0x80, 0x80, 0x80, 0x80, 0x00),
		"a text of which a byte is missing":  {1, 1, 2, 'a'},
		"a text's size with noughts ahead":   {1, 1, 0x80, 1, 'a'},
		"a text's size that is cut off":      {1, 1, 0x81},
		"a text that is a byte too long":     append([]byte{1, 1}, num.PutText(nil, strings.Repeat("t", api.MaxText+1))...),
		"a text that is too long, not there": append([]byte{1, 1}, num.Put(nil, api.MaxText+1)...),
		"a text as long as can be said":      append([]byte{1, 1}, great...),
	} {
		for _, ahead := range [][]byte{nil, {0}, {1, 0}, {0x81, 0x80}} {
			whole := append(bytes.Clone(ahead), b...)
			if r, next, e := row.Get(whole, len(ahead)); len(r) != 0 || next != 0 || e != api.ErrForm {
				t.Errorf("%s, behind %x: %v, %d, %d", what, ahead, r, next, e)
			}
		}
	}
}

func TestGetRefusesWhatIsCutOff(t *testing.T) { // P3.3
	for i, r := range good() {
		b := told(r)
		step := max(1, len(b)/500)
		for size := 0; size < len(b); size += step {
			// What lies in the spare room behind is no part of it.
			if got, next, e := row.Get(b[:size], 0); len(got) != 0 || next != 0 || e != api.ErrForm {
				t.Errorf("row %d, %d bytes of it: %v, %d, %d", i, size, got, next, e)
			}
		}
		if _, _, e := row.Get(b[:len(b)-1], 0); e != api.ErrForm {
			t.Errorf("row %d, all but the last byte: %d", i, e)
		}
	}
}

// holdGot holds what is got of bytes against what is put of it; it tells whether a row was got.
func holdGot(t *testing.T, b []byte, at int) bool {
	t.Helper()
	r, next, e := row.Get(b, at)
	switch e {
	case api.OK:
		put, putE := row.Put(b[:at], r)
		if !bytes.Equal(put, b[:next]) || putE != api.OK {
			t.Errorf("%x at %d: got %v up to %d, put %x, %d", b, at, r, next, put, putE)
		}
		for _, v := range r {
			if v.Kind == api.KindInt && v.Str != "" || v.Kind == api.KindStr && v.Int != 0 {
				t.Errorf("%x at %d: a field that plays no part is filled: %v", b, at, v)
			}
		}
		return true
	case api.ErrForm:
		if at < 0 || at > len(b) {
			t.Errorf("%x at %d: ErrForm", b, at)
		}
	case api.ErrRange:
		if at >= 0 && at <= len(b) {
			t.Errorf("%x at %d: ErrRange", b, at)
		}
	default:
		t.Errorf("%x at %d: %d", b, at, e)
	}
	if len(r) != 0 || next != 0 {
		t.Errorf("%x at %d: %v, %d beside an error", b, at, r, next)
	}
	return false
}

func TestGotIsPut(t *testing.T) { // P3.3
	got := 0
	for i := range 1 << 24 {
		if first := byte(i >> 16); first > 1 && first != 0x80 {
			continue
		}
		if holdGot(t, []byte{byte(i >> 16), byte(i >> 8), byte(i)}, 0) {
			got++
		}
	}
	// Of no value, whatever stands behind; of one number of a group; of the empty text.
	if want := 1<<16 + 128 + 1; got != want {
		t.Errorf("%d were got, not %d", got, want)
	}
}

func FuzzGotIsPut(f *testing.F) { // P3.3, P3.4
	f.Add([]byte{2, 0, 0x0a, 1, 1, 0x61}, 0)
	f.Add([]byte{9, 1, 1, 2, 'a', 'b'}, 1)
	f.Add([]byte{1, 0, 0x80, 1}, 0)
	f.Add([]byte{17}, 0)
	f.Add([]byte{1, 2, 0}, 0)
	f.Fuzz(func(t *testing.T, b []byte, at int) { holdGot(t, b, at) })
}

// scribble writes over rows and their spare room.
func scribble(rows ...api.Row) {
	for _, r := range rows {
		r = r[:cap(r)]
		for i := range r {
			r[i] = s("scribbled over")
		}
	}
}

func TestAnswersAreNewMemory(t *testing.T) { // the rule of memory
	for name, ask := range map[string]func(r api.Row) []api.Row{
		"Part": func(r api.Row) []api.Row {
			p, _ := row.Part(r, []int{0, 1})
			return []api.Row{p}
		},
		"Part of none": func(r api.Row) []api.Row {
			p, _ := row.Part(r, nil)
			return []api.Row{p}
		},
		"Join of one":  func(r api.Row) []api.Row { return []api.Row{row.Join(r)} },
		"Join of two":  func(r api.Row) []api.Row { return []api.Row{row.Join(r, r)} },
		"Join of nils": func(r api.Row) []api.Row { return []api.Row{row.Join(nil, r, nil)} },
		"Join of none": func(r api.Row) []api.Row { return []api.Row{row.Join(r[:0], r[2:])} },
		"Cut at 0":     func(r api.Row) []api.Row { k, rest, _ := row.Cut(r, 0); return []api.Row{k, rest} },
		"Cut at 1":     func(r api.Row) []api.Row { k, rest, _ := row.Cut(r, 1); return []api.Row{k, rest} },
		"Cut at 2":     func(r api.Row) []api.Row { k, rest, _ := row.Cut(r, 2); return []api.Row{k, rest} },
		"Cut at 3":     func(r api.Row) []api.Row { k, rest, _ := row.Cut(r, 3); return []api.Row{k, rest} },
	} {
		in := roomyRow(api.Row{n(5), s("a")})
		whole := slices.Clone(in[:cap(in)])
		first, second := ask(in), ask(in)
		var want []api.Row
		for _, r := range second {
			want = append(want, slices.Clone(r))
		}
		for i := range first {
			// Each list in turn: the ones beside it must stand.
			scribble(first[i])
			for _, beside := range first[i+1:] {
				if slices.ContainsFunc(beside, func(v api.Val) bool { return v.Str == "scribbled over" }) {
					t.Errorf("%s: two lists of an answer share memory", name)
				}
			}
		}
		for i := range first {
			first[i] = append(first[i], s("behind"))
		}
		if !equal(in[:cap(in)], whole) {
			t.Errorf("%s changes what is handed in, or answers a piece of it", name)
		}
		scribble(in)
		for i := range second {
			if !equal(second[i], want[i]) {
				t.Errorf("%s: an answer shares memory with the argument or with another answer", name)
			}
		}
	}
}

func TestColsAndListsAreLeft(t *testing.T) { // the rule of memory
	r := roomyRow(api.Row{n(5), s("a")})
	cols := append([]int{1, 0}, 7, 8)[:2]
	list := append([]api.Row{r, nil, r}, api.Row{n(1)})[:3]
	for range 2 {
		row.Part(r, cols)
		row.Fits(r, cols)
		row.Join(list...)
		row.Check(r)
		row.Order(r, r[:1])
	}
	if !slices.Equal(cols[:4], []int{1, 0, 7, 8}) {
		t.Errorf("the places are changed: %v", cols[:4])
	}
	if !equal(list[0], r) || list[1] != nil || !equal(list[2], r) || !equal(list[:4][3], api.Row{n(1)}) {
		t.Errorf("the list of rows is changed: %v", list[:4])
	}
	if !equal(r[:5], api.Row{n(5), s("a"), s("the spare"), s("room"), n(99)}) {
		t.Errorf("the row is changed: %v", r[:5])
	}
}

func TestBytesAreNewMemory(t *testing.T) { // the rule of memory
	for _, r := range []api.Row{nil, {n(-300), s("abc")}} {
		for _, ahead := range [][]byte{{}, []byte("ahead")} {
			in, given := roomyBytes(ahead), roomyRow(r)
			whole := bytes.Clone(in[:cap(in)])
			first, _ := row.Put(in, given)
			second, _ := row.Put(in, given)
			want := bytes.Clone(second)
			scribbleBytes(first)
			if !bytes.Equal(in[:cap(in)], whole) || !equal(given[:cap(given)], roomyRow(r)[:cap(given)]) {
				t.Error("what is handed in is changed, or its spare room")
			}
			scribbleBytes(in)
			scribble(given)
			if !bytes.Equal(second, want) {
				t.Error("an answer shares memory with the argument or with another answer")
			}
		}
	}
}

func scribbleBytes(b []byte) {
	b = b[:cap(b)]
	for i := range b {
		b[i] = 0xee
	}
}

func TestGetLeavesBytes(t *testing.T) { // the rule of memory
	r := api.Row{n(5), s("abc")}
	b := roomyBytes(told(r))
	whole := bytes.Clone(b[:cap(b)])
	for at := -1; at <= len(b)+1; at++ {
		row.Get(b, at)
	}
	if !bytes.Equal(b[:cap(b)], whole) {
		t.Error("what is handed in is changed")
	}
	first, _, _ := row.Get(b, 0)
	second, _, _ := row.Get(b, 0)
	scribbleBytes(b)
	scribble(first)
	if !equal(second, r) {
		t.Errorf("the row shares memory with the bytes or with another answer: %v", second)
	}
}

func TestNilIsEmpty(t *testing.T) { // the rule of memory
	if !row.Same(nil, api.Row{}) || row.Order(nil, api.Row{n(0)}) != -1 || row.Order(api.Row{n(0)}, nil) != 1 {
		t.Error("Order tells nil and empty apart")
	}
	fromNil, e := row.Put(nil, nil)
	fromEmpty, e2 := row.Put([]byte{}, api.Row{})
	if !bytes.Equal(fromNil, fromEmpty) || e != api.OK || e2 != api.OK {
		t.Errorf("Put tells nil and empty apart: %x, %x", fromNil, fromEmpty)
	}
	if e := row.Check(nil); e != api.OK {
		t.Errorf("Check of nil: %d", e)
	}
	if k, rest, e := row.Cut(nil, 0); len(k)+len(rest) != 0 || e != api.OK {
		t.Errorf("Cut of nil: %v, %v, %d", k, rest, e)
	}
	if r, next, e := row.Get([]byte{0}, 0); len(r) != 0 || next != 1 || e != api.OK {
		t.Errorf("Get of the empty row: %v, %d, %d", r, next, e)
	}
}

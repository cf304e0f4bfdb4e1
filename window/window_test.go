package window_test

import (
	"math"
	"math/big"
	"slices"
	"testing"
	"unsafe"

	"runnel/api"
	"runnel/row"
	"runnel/window"
)

const (
	low   = math.MinInt
	high  = math.MaxInt
	span  = api.MaxSpan
	point = api.MaxPoint
)

func n(x int) api.Val    { return api.Val{Kind: api.KindInt, Int: x} }
func s(x string) api.Val { return api.Val{Kind: api.KindStr, Str: x} }

// badSpans are numbers that are neither a size nor a slide.
func badSpans() []int {
	return []int{0, -1, -5, -span, span + 1, 2 * span, 1 << 62, low, low + 1, high}
}

// badPoints are numbers that fall into no window whatever.
func badPoints() []int {
	return []int{point + 1, -point - 1, point + 2, 2 * point, -2 * point, low, low + 1, high, high - 1}
}

// goodSpans are sizes and slides, small ones and the edges with those beside them.
func goodSpans() []int {
	l := []int{1, 2, 3, 5, 7, 63, 64, 65, 128, 1000, 999983, 1 << 34, span / 3, span / 2, span - 1, span}
	for _, slide := range []int{7, 1000} {
		l = append(l, api.MaxWindows*slide-1, api.MaxWindows*slide)
	}
	// The least slides that the greatest sizes may have, and the one below.
	return append(l, span/api.MaxWindows-1, span/api.MaxWindows, span/api.MaxWindows+1)
}

// goodPoints are numbers of either sign, the edges with those beside them, and those beside multiples of the greatest slides.
func goodPoints() []int {
	l := []int{0, 1, -1, 2, -2, 4, 5, -5, 7, -7, 64, -64, 99, -100, 123456789, -987654321}
	for _, n := range []int{span, 2 * span, span / 3, 12345 * span, point / 2, point / 3} {
		l = append(l, n-1, n, n+1, -n-1, -n, -n+1)
	}
	return append(l, point, point-1, point-2, -point, -point+1, -point+2, point-span, -point+span)
}

// isAnyOf says the chapter's "from .. to" in other words than the program does.
func isAnyOf(n, from, to int) bool { return min(max(n, from), to) == n }

func askedCheck(size, slide int) api.Errno {
	if !isAnyOf(size, 1, span) || !isAnyOf(slide, 1, span) {
		return api.ErrArg
	}
	most := new(big.Int).Mul(big.NewInt(64), big.NewInt(int64(slide)))
	if big.NewInt(int64(size)).Cmp(most) > 0 {
		return api.ErrMany
	}
	return api.OK
}

// multiple is the one of slide that is not above v, so many on from it, of numbers of any length.
func multiple(v, slide, on int) *big.Int {
	b := new(big.Int).Div(big.NewInt(int64(v)), big.NewInt(int64(slide))) // this one rounds down, as slide is above 0
	b.Add(b, big.NewInt(int64(on)))
	return b.Mul(b, big.NewInt(int64(slide)))
}

func askedFloor(v, slide int) (int, api.Errno) {
	if !isAnyOf(slide, 1, span) {
		return 0, api.ErrArg
	}
	if !isAnyOf(v, -point, point) {
		return 0, api.ErrOver
	}
	return int(multiple(v, slide, 0).Int64()), api.OK
}

// holds: is b <= v and v < b + size?
func holds(b *big.Int, v, size int) bool {
	number, end := big.NewInt(int64(v)), new(big.Int).Add(b, big.NewInt(int64(size)))
	return b.Cmp(number) <= 0 && number.Cmp(end) < 0
}

// askedBuckets asks every multiple by itself, many more to either side than there may be windows.
func askedBuckets(v, size, slide int) ([]int, api.Errno) {
	if e := askedCheck(size, slide); e != api.OK {
		return nil, e
	}
	if !isAnyOf(v, -point, point) {
		return nil, api.ErrOver
	}
	var l []int
	for on := -70; on <= 70; on++ {
		if b := multiple(v, slide, on); holds(b, v, size) {
			l = append(l, int(b.Int64()))
		}
	}
	return l, api.OK
}

func askedAssign(r api.Row, col, size, slide int) ([]api.Row, api.Errno) {
	if col < 0 || col >= len(r) {
		return nil, api.ErrRange
	}
	if len(r) > 15 {
		return nil, api.ErrMany
	}
	if r[col].Kind != api.KindInt {
		return nil, api.ErrType
	}
	windows, e := askedBuckets(r[col].Int, size, slide)
	var l []api.Row
	for _, b := range windows {
		l = append(l, append(slices.Clone(r), n(b)))
	}
	return l, e
}

func sameRows(a, b []api.Row) bool { return slices.EqualFunc(a, b, row.Same) }

func holdFloor(t *testing.T, v, slide int) {
	t.Helper()
	want, wantErr := askedFloor(v, slide)
	if got, e := window.Floor(v, slide); got != want || e != wantErr {
		t.Errorf("Floor(%d, %d) = %d, %d, want %d, %d", v, slide, got, e, want, wantErr)
	}
}

func holdBuckets(t *testing.T, v, size, slide int) {
	t.Helper()
	want, wantErr := askedBuckets(v, size, slide)
	if l, e := window.Buckets(v, size, slide); !slices.Equal(l, want) || e != wantErr {
		t.Errorf("Buckets(%d, %d, %d) = %d, %d, want %d, %d", v, size, slide, l, e, want, wantErr)
	}
}

func holdAssign(t *testing.T, r api.Row, col, size, slide int) {
	t.Helper()
	want, wantErr := askedAssign(r, col, size, slide)
	if l, e := window.Assign(r, col, size, slide); !sameRows(l, want) || e != wantErr {
		t.Errorf("Assign(%v, %d, %d, %d) = %v, %d, want %v, %d", r, col, size, slide, l, e, want, wantErr)
	}
}

func TestCheck(t *testing.T) { // P14.1: told by hand
	for _, c := range []struct {
		size, slide int
		want        api.Errno
	}{
		{10, 5, api.OK},
		{5, 5, api.OK},
		{2, 5, api.OK},
		{1, 1, api.OK},
		{64, 1, api.OK},
		{65, 1, api.ErrMany},
		{64 * 7, 7, api.OK},
		{64*7 + 1, 7, api.ErrMany},
		{64*7 - 1, 7, api.OK},
		{1, 1 << 40, api.OK},
		{1 << 40, 1 << 40, api.OK},
		{1 << 40, 1 << 34, api.OK},
		{1 << 40, 1<<34 - 1, api.ErrMany},
		{1<<40 - 1, 1<<34 - 1, api.ErrMany},
		{1<<40 - 64, 1<<34 - 1, api.OK},
		{1<<40 - 63, 1<<34 - 1, api.ErrMany},
		{1 << 40, 1, api.ErrMany},
		{0, 1, api.ErrArg},
		{1, 0, api.ErrArg},
		{0, 0, api.ErrArg},
		{-5, 5, api.ErrArg},
		{5, -5, api.ErrArg},
		{-5, -5, api.ErrArg},
		{1<<40 + 1, 1 << 40, api.ErrArg},
		{1 << 40, 1<<40 + 1, api.ErrArg},
		{low, 1, api.ErrArg},
		{1, low, api.ErrArg},
		{high, 1, api.ErrArg},
		{1, high, api.ErrArg},
		// Of two faults the first one.
		{1<<40 + 1, 1, api.ErrArg},
		{1, -1, api.ErrArg},
		{high, 1 << 34, api.ErrArg},
	} {
		if e := window.Check(c.size, c.slide); e != c.want {
			t.Errorf("Check(%d, %d) = %d, want %d", c.size, c.slide, e, c.want)
		}
	}
}

func TestCheckEach(t *testing.T) { // P14.1
	l := append(goodSpans(), badSpans()...)
	for _, size := range l {
		for _, slide := range l {
			if e, want := window.Check(size, slide), askedCheck(size, slide); e != want {
				t.Errorf("Check(%d, %d) = %d, want %d", size, slide, e, want)
			}
		}
	}
}

func TestFloor(t *testing.T) { // P14.1: told by hand
	for _, c := range []struct {
		v, slide, want int
		e              api.Errno
	}{
		{7, 5, 5, api.OK},
		{5, 5, 5, api.OK},
		{4, 5, 0, api.OK},
		{9, 5, 5, api.OK},
		{10, 5, 10, api.OK},
		{0, 5, 0, api.OK},
		{-1, 5, -5, api.OK},
		{-4, 5, -5, api.OK},
		{-5, 5, -5, api.OK},
		{-6, 5, -10, api.OK},
		{-7, 1, -7, api.OK},
		{7, 1, 7, api.OK},
		{0, 1, 0, api.OK},
		{1, 1 << 40, 0, api.OK},
		{-1, 1 << 40, -1 << 40, api.OK},
		{1 << 40, 1 << 40, 1 << 40, api.OK},
		{1<<40 - 1, 1 << 40, 0, api.OK},
		{-1 << 40, 1 << 40, -1 << 40, api.OK},
		{-1<<40 - 1, 1 << 40, -1 << 41, api.OK},
		{1 << 60, 1, 1 << 60, api.OK},
		{-1 << 60, 1, -1 << 60, api.OK},
		{1 << 60, 1 << 40, 1 << 60, api.OK},
		{1<<60 - 1, 1 << 40, 1<<60 - 1<<40, api.OK},
		{-1 << 60, 1 << 40, -1 << 60, api.OK},
		{-1 << 60, 3, -1<<60 - 2, api.OK}, // the multiple itself may lie below -MaxPoint
		{1 << 60, 3, 1<<60 - 1, api.OK},
	} {
		if got, e := window.Floor(c.v, c.slide); got != c.want || e != c.e {
			t.Errorf("Floor(%d, %d) = %d, %d, want %d, %d", c.v, c.slide, got, e, c.want, c.e)
		}
	}
}

func TestFloorOneByOne(t *testing.T) { // P14.1: the greatest multiple of all that are not above
	for slide := 1; slide <= 20; slide++ {
		for v := -100; v <= 100; v++ {
			want := low
			for b := -200 * slide; b <= v; b += slide {
				want = max(want, b)
			}
			if got, e := window.Floor(v, slide); got != want || e != api.OK {
				t.Errorf("Floor(%d, %d) = %d, %d, want %d", v, slide, got, e, want)
			}
		}
	}
}

func TestFloorEach(t *testing.T) { // P14.1
	for _, v := range append(goodPoints(), badPoints()...) {
		for _, slide := range append(goodSpans(), badSpans()...) {
			holdFloor(t, v, slide)
		}
	}
}

func TestFloorRefuses(t *testing.T) { // P14.1
	for _, slide := range badSpans() {
		for _, v := range append(badPoints(), 0, 7, -7, point, -point) { // of two faults the first one
			if got, e := window.Floor(v, slide); got != 0 || e != api.ErrArg {
				t.Errorf("Floor(%d, %d) = %d, %d, want ErrArg", v, slide, got, e)
			}
		}
	}
	for _, v := range badPoints() {
		for _, slide := range []int{1, 5, span} {
			if got, e := window.Floor(v, slide); got != 0 || e != api.ErrOver {
				t.Errorf("Floor(%d, %d) = %d, %d, want ErrOver", v, slide, got, e)
			}
		}
	}
}

func TestBuckets(t *testing.T) { // P14.2: told by hand
	for _, c := range []struct {
		v, size, slide int
		want           []int
	}{
		{7, 10, 5, []int{0, 5}}, // the page's examples
		{-1, 5, 5, []int{-5}},
		{4, 2, 5, nil},

		// They overlap.
		{0, 10, 5, []int{-5, 0}},
		{5, 10, 5, []int{0, 5}},
		{4, 10, 5, []int{-5, 0}},
		{-1, 10, 5, []int{-10, -5}},
		{-7, 4, 2, []int{-10, -8}},
		{7, 7, 3, []int{3, 6}},
		{9, 7, 3, []int{3, 6, 9}},
		{8, 7, 3, []int{3, 6}},
		{-9, 7, 3, []int{-15, -12, -9}},

		// They follow one another.
		{0, 5, 5, []int{0}},
		{4, 5, 5, []int{0}},
		{5, 5, 5, []int{5}},
		{-5, 5, 5, []int{-5}},
		{-6, 5, 5, []int{-10}},
		{0, 1, 1, []int{0}},
		{-3, 1, 1, []int{-3}},

		// They leave numbers between them.
		{5, 2, 5, []int{5}},
		{6, 2, 5, []int{5}},
		{7, 2, 5, nil},
		{9, 2, 5, nil},
		{-5, 2, 5, []int{-5}},
		{-4, 2, 5, []int{-5}},
		{-3, 2, 5, nil},
		{-1, 2, 5, nil},
		{0, 1, 1 << 40, []int{0}},
		{1, 1, 1 << 40, nil},
		{-1, 1, 1 << 40, nil},

		// The greatest ones, at the edges of what falls into windows.
		{1 << 60, 1 << 40, 1 << 40, []int{1 << 60}},
		{1<<60 - 1, 1 << 40, 1 << 40, []int{1<<60 - 1<<40}},
		{-1 << 60, 1 << 40, 1 << 40, []int{-1 << 60}},
		{-1<<60 + 1, 1 << 40, 1 << 40, []int{-1 << 60}},
		{-1 << 60, 1 << 40, 1 << 39, []int{-1<<60 - 1<<39, -1 << 60}},
		{-1 << 60, 5, 3, []int{-1<<60 - 2}},
		{-1 << 60, 1, 1, []int{-1 << 60}},
		{1 << 60, 1, 1, []int{1 << 60}},
		{1 << 60, 2, 1, []int{1<<60 - 1, 1 << 60}},
	} {
		if l, e := window.Buckets(c.v, c.size, c.slide); !slices.Equal(l, c.want) || e != api.OK {
			t.Errorf("Buckets(%d, %d, %d) = %d, %d, want %d", c.v, c.size, c.slide, l, e, c.want)
		}
	}
}

func TestBucketsOneByOne(t *testing.T) { // P14.2: of all multiples by themselves, rising
	for slide := 1; slide <= 12; slide++ {
		for size := 1; size <= 40; size++ {
			for v := -60; v <= 60; v++ {
				var want []int
				for b := -120 * slide; b <= 120*slide; b += slide {
					if b <= v && v < b+size {
						want = append(want, b)
					}
				}
				if l, e := window.Buckets(v, size, slide); !slices.Equal(l, want) || e != api.OK {
					t.Errorf("Buckets(%d, %d, %d) = %d, %d, want %d", v, size, slide, l, e, want)
				}
			}
		}
	}
}

func TestBucketsEach(t *testing.T) { // P14.2: also at the edges, and with what is refused
	points := append(goodPoints(), badPoints()...)
	for _, size := range append(goodSpans(), 0, span+1) {
		for _, slide := range append(goodSpans(), 0, span+1) {
			for _, v := range points {
				holdBuckets(t, v, size, slide)
			}
		}
	}
}

func TestAsManyWindowsAsMayBe(t *testing.T) { // P14.2: size is just MaxWindows times slide
	for _, slide := range []int{1, 2, 7, 1000, span/api.MaxWindows - 1, span / api.MaxWindows} {
		for _, v := range goodPoints() {
			l, e := window.Buckets(v, api.MaxWindows*slide, slide)
			if len(l) != api.MaxWindows || e != api.OK {
				t.Fatalf("Buckets(%d, %d, %d): %d windows, error %d", v, api.MaxWindows*slide, slide, len(l), e)
			}
			last, _ := window.Floor(v, slide)
			for i, b := range l {
				if want := last - (api.MaxWindows-1-i)*slide; b != want {
					t.Errorf("Buckets(%d, %d, %d): window %d is %d, want %d", v, api.MaxWindows*slide, slide, i, b, want)
				}
			}
		}
	}
	l, e := window.Buckets(-point, span, span/api.MaxWindows)
	if len(l) != 64 || l[0] != -point-63*(span/64) || l[63] != -point || e != api.OK {
		t.Errorf("windows that begin below -MaxPoint: %d, %d", l, e)
	}
}

func TestBucketsRefuses(t *testing.T) { // P14.2
	points := append(badPoints(), 0, 7, -7, point, -point) // of two faults the first one
	for _, bad := range badSpans() {
		for _, good := range []int{1, 5, span} {
			for _, v := range points {
				for _, two := range [][2]int{{bad, good}, {good, bad}, {bad, bad}} {
					if l, e := window.Buckets(v, two[0], two[1]); len(l) != 0 || e != api.ErrArg {
						t.Errorf("Buckets(%d, %d, %d) = %d, %d, want ErrArg", v, two[0], two[1], l, e)
					}
				}
			}
		}
	}
	for _, slide := range []int{1, 5, span/api.MaxWindows - 1} {
		for _, size := range []int{api.MaxWindows*slide + 1, span} {
			for _, v := range points {
				if l, e := window.Buckets(v, size, slide); len(l) != 0 || e != api.ErrMany {
					t.Errorf("Buckets(%d, %d, %d) = %d, %d, want ErrMany", v, size, slide, l, e)
				}
			}
		}
	}
	for _, v := range badPoints() {
		for _, two := range [][2]int{{1, 1}, {5, 5}, {10, 5}, {2, 5}, {64, 1}, {span, span}, {span, span / api.MaxWindows}, {1, span}} {
			if l, e := window.Buckets(v, two[0], two[1]); len(l) != 0 || e != api.ErrOver {
				t.Errorf("Buckets(%d, %d, %d) = %d, %d, want ErrOver", v, two[0], two[1], l, e)
			}
		}
	}
}

func TestJustOneWindow(t *testing.T) { // P14.3: where size is slide
	for _, size := range goodSpans() {
		for _, v := range goodPoints() {
			want, _ := window.Floor(v, size)
			if l, e := window.Buckets(v, size, size); len(l) != 1 || l[0] != want || e != api.OK {
				t.Errorf("Buckets(%d, %d, %d) = %d, %d, want %d alone", v, size, size, l, e, want)
			}
		}
	}
}

func TestEachWindowHolds(t *testing.T) { // P14.3: each one that is told, and no multiple ahead of or behind them
	for _, size := range goodSpans() {
		for _, slide := range goodSpans() {
			if window.Check(size, slide) != api.OK {
				continue
			}
			for _, v := range goodPoints() {
				holdTold(t, v, size, slide)
			}
		}
	}
}

func holdTold(t *testing.T, v, size, slide int) {
	t.Helper()
	l, e := window.Buckets(v, size, slide)
	if e != api.OK {
		t.Fatalf("Buckets(%d, %d, %d): error %d", v, size, slide, e)
	}
	for i, b := range l {
		if b%slide != 0 || !holds(big.NewInt(int64(b)), v, size) {
			t.Errorf("Buckets(%d, %d, %d) = %d: %d does not hold it", v, size, slide, l, b)
		}
		if i > 0 && b-l[i-1] != slide {
			t.Errorf("Buckets(%d, %d, %d) = %d: not each by one slide on", v, size, slide, l)
		}
	}
	last, _ := window.Floor(v, slide)
	ahead, behind := last, last+slide
	if len(l) > 0 {
		ahead, behind = l[0]-slide, l[len(l)-1]+slide
	}
	for _, b := range []int{ahead, behind} {
		if holds(big.NewInt(int64(b)), v, size) {
			t.Errorf("Buckets(%d, %d, %d) = %d: %d would hold it, too", v, size, slide, l, b)
		}
	}
}

func TestAssign(t *testing.T) { // P14.2: told by hand
	odd := api.Val{Kind: 7}
	for _, c := range []struct {
		r                api.Row
		col, size, slide int
		want             []api.Row
	}{
		{api.Row{n(7)}, 0, 10, 5, []api.Row{{n(7), n(0)}, {n(7), n(5)}}},
		{api.Row{n(7)}, 0, 5, 5, []api.Row{{n(7), n(5)}}},
		{api.Row{n(-1)}, 0, 5, 5, []api.Row{{n(-1), n(-5)}}},
		{api.Row{n(4)}, 0, 2, 5, nil},
		{api.Row{s("a"), n(7)}, 1, 10, 5, []api.Row{{s("a"), n(7), n(0)}, {s("a"), n(7), n(5)}}},
		{api.Row{n(7), s("a")}, 0, 10, 5, []api.Row{{n(7), s("a"), n(0)}, {n(7), s("a"), n(5)}}},
		{api.Row{s("a"), n(7), s("b")}, 1, 5, 5, []api.Row{{s("a"), n(7), s("b"), n(5)}}},
		{api.Row{n(1), n(100), s(""), n(-8)}, 3, 4, 2, []api.Row{{n(1), n(100), s(""), n(-8), n(-10)}, {n(1), n(100), s(""), n(-8), n(-8)}}},
		{api.Row{n(1), n(100), s(""), n(-8)}, 1, 4, 4, []api.Row{{n(1), n(100), s(""), n(-8), n(100)}}},
		{api.Row{n(high), n(3), n(low)}, 1, 3, 3, []api.Row{{n(high), n(3), n(low), n(3)}}}, // the other columns' numbers play no part
		{api.Row{odd, n(3)}, 1, 3, 3, []api.Row{{odd, n(3), n(3)}}},                         // nor do their kinds
		{api.Row{n(-point)}, 0, span, span / 2, []api.Row{{n(-point), n(-point - span/2)}, {n(-point), n(-point)}}},
		{api.Row{n(point)}, 0, span, span, []api.Row{{n(point), n(point)}}},
		{api.Row{n(1)}, 0, 1, span, nil},
	} {
		if l, e := window.Assign(c.r, c.col, c.size, c.slide); !sameRows(l, c.want) || e != api.OK {
			t.Errorf("Assign(%v, %d, %d, %d) = %v, %d, want %v", c.r, c.col, c.size, c.slide, l, e, c.want)
		}
	}
}

// mixed is a row of numbers and texts in turn.
func mixed(size int) api.Row {
	r := make(api.Row, size)
	for i := range r {
		if r[i] = n(i*37 - 100); i%2 == 1 {
			r[i] = s([]string{"", "a", "text"}[i%3])
		}
	}
	return r
}

func TestAssignAnywhere(t *testing.T) { // P14.2: each column of each row that may be, of MaxCols - 1 values at most
	for size := 1; size < api.MaxCols; size++ {
		for col := range size {
			for _, v := range []int{0, 7, -7, -61, 60, point, -point} {
				r := mixed(size)
				r[col] = n(v)
				for _, two := range [][2]int{{10, 5}, {5, 5}, {2, 5}, {64, 1}, {7, 3}, {span, span / 64}} {
					holdAssign(t, r, col, two[0], two[1])
				}
			}
		}
	}
}

func TestAssignIsByKindAlone(t *testing.T) { // the rule of rows: the field that plays no part does not count
	r := api.Row{{Kind: api.KindInt, Int: 7, Str: "9"}, {Kind: api.KindStr, Int: 3, Str: "a"}}
	l, e := window.Assign(r, 0, 10, 5)
	if !sameRows(l, []api.Row{{n(7), s("a"), n(0)}, {n(7), s("a"), n(5)}}) || e != api.OK {
		t.Errorf("Assign = %v, %d", l, e)
	}
	if l, e := window.Assign(r, 1, 10, 5); len(l) != 0 || e != api.ErrType {
		t.Errorf("Assign of a text = %v, %d", l, e)
	}
}

// faulty is a call of Assign, and the error that it must tell.
type faulty struct {
	name             string
	r                api.Row
	col, size, slide int
	want             api.Errno
}

func assignFaults() []faulty {
	one, full := api.Row{n(7)}, mixed(api.MaxCols)
	odd := api.Val{Kind: 2}
	return []faulty{
		{"a column of -1", one, -1, 5, 5, api.ErrRange},
		{"the least column", one, low, 5, 5, api.ErrRange},
		{"a column of as many as there are", one, 1, 5, 5, api.ErrRange},
		{"the one behind it", one, 2, 5, 5, api.ErrRange},
		{"the greatest column", one, high, 5, 5, api.ErrRange},
		{"no column of a nil row", nil, 0, 5, 5, api.ErrRange},
		{"no column of an empty row", api.Row{}, 0, 5, 5, api.ErrRange},
		{"a column of -1 of a nil row", nil, -1, 5, 5, api.ErrRange},
		{"a column in the spare room", append(api.Row{n(1)}, n(2))[:1], 1, 5, 5, api.ErrRange},
		{"a full row", full, 0, 5, 5, api.ErrMany},
		{"a full row's last number", full, api.MaxCols - 2, 5, 5, api.ErrMany},
		{"a row of more", mixed(api.MaxCols + 1), 0, 5, 5, api.ErrMany},
		{"a row of far more", mixed(1000), 998, 5, 5, api.ErrMany},
		{"a text", api.Row{n(7), s("7")}, 1, 5, 5, api.ErrType},
		{"an empty text", api.Row{s("")}, 0, 5, 5, api.ErrType},
		{"a kind of neither", api.Row{odd}, 0, 5, 5, api.ErrType},
		{"a kind below 0", api.Row{{Kind: -1, Int: 7}}, 0, 5, 5, api.ErrType},
		{"the least kind", api.Row{{Kind: low}}, 0, 5, 5, api.ErrType},
		{"the greatest kind", api.Row{{Kind: high}}, 0, 5, 5, api.ErrType},
		{"size 0", one, 0, 0, 5, api.ErrArg},
		{"slide 0", one, 0, 5, 0, api.ErrArg},
		{"size below 0", one, 0, -5, 5, api.ErrArg},
		{"slide too great", one, 0, 5, span + 1, api.ErrArg},
		{"too many windows", one, 0, 65, 1, api.ErrMany},
		{"a number that is too great", api.Row{s("a"), n(point + 1)}, 1, 5, 5, api.ErrOver},
		{"a number that is too little", api.Row{s("a"), n(-point - 1)}, 1, 5, 5, api.ErrOver},
		{"the least number", api.Row{n(low)}, 0, 5, 5, api.ErrOver},
		{"the greatest number", api.Row{n(high)}, 0, 5, 5, api.ErrOver},

		// Of two faults the one that the chapter names first.
		{"no column, a full row", full, -1, 5, 5, api.ErrRange},
		{"no column, a full row, behind", full, api.MaxCols, 5, 5, api.ErrRange},
		{"no column, size 0", one, 1, 0, 5, api.ErrRange},
		{"no column, too many windows", one, 1, 65, 1, api.ErrRange},
		{"a full row, a text", full, 1, 5, 5, api.ErrMany},
		{"a full row, slide 0", full, 0, 5, 0, api.ErrMany},
		{"a full row, a number too great", append(api.Row{n(high)}, mixed(15)...), 0, 5, 5, api.ErrMany},
		{"a text, size 0", api.Row{s("a")}, 0, 0, 5, api.ErrType},
		{"a text, too many windows", api.Row{s("a")}, 0, 65, 1, api.ErrType},
		{"a kind of neither, slide 0", api.Row{odd}, 0, 5, 0, api.ErrType},
		{"a text, its number too great", api.Row{{Kind: api.KindStr, Int: high}}, 0, 5, 5, api.ErrType},
		{"size 0, a number too great", api.Row{n(high)}, 0, 0, 5, api.ErrArg},
		{"too many windows, a number too great", api.Row{n(high)}, 0, 65, 1, api.ErrMany},
	}
}

func TestAssignRefuses(t *testing.T) { // P14.2
	for _, c := range assignFaults() {
		if l, e := window.Assign(c.r, c.col, c.size, c.slide); len(l) != 0 || e != c.want {
			t.Errorf("%s: Assign = %v, %d, want %d", c.name, l, e, c.want)
		}
	}
	for _, bad := range badSpans() {
		for _, two := range [][2]int{{bad, 5}, {5, bad}, {bad, bad}} {
			if l, e := window.Assign(api.Row{n(7)}, 0, two[0], two[1]); len(l) != 0 || e != api.ErrArg {
				t.Errorf("size %d, slide %d: Assign = %v, %d, want ErrArg", two[0], two[1], l, e)
			}
		}
	}
	for _, v := range badPoints() {
		if l, e := window.Assign(api.Row{n(v)}, 0, 5, 5); len(l) != 0 || e != api.ErrOver {
			t.Errorf("number %d: Assign = %v, %d, want ErrOver", v, l, e)
		}
	}
}

// roomy is the row with spare room behind it, which is filled.
func roomy(r api.Row) api.Row {
	return append(slices.Clip(slices.Clone(r)), s("the spare"), s("room"), n(99))[:len(r)]
}

// spoilRow writes over a row, its spare room too, and appends to it.
func spoilRow(r api.Row) {
	_ = append(r, s("spoilt"))
	for i := range r[:cap(r)] {
		r[:cap(r)][i] = s("spoilt")
	}
}

// inWindows are rows with a number at their column 1, each of which falls into some windows of size 10, slide 3.
func inWindows() []api.Row {
	return []api.Row{
		{s("a"), n(7)},
		{n(5), n(-7), s("b")},
		append(api.Row{s(""), n(0)}, mixed(api.MaxCols-3)...),
	}
}

func mustAssign(t *testing.T, r api.Row) []api.Row {
	t.Helper()
	l, e := window.Assign(r, 1, 10, 3)
	if len(l) < 3 || e != api.OK {
		t.Fatalf("Assign(%v): %v, %d", r, l, e)
	}
	return l
}

func TestWhatIsHandedInIsLeft(t *testing.T) { // the rule of memory
	for _, plain := range inWindows() {
		want, _ := askedAssign(plain, 1, 10, 3)
		given := roomy(plain)
		whole := slices.Clone(given[:cap(given)])
		l := mustAssign(t, given)
		if !slices.Equal(given[:cap(given)], whole) {
			t.Errorf("%v was changed, or its spare room: %v", plain, given[:cap(given)])
		}
		for i := range l {
			spoilRow(l[i])
		}
		if !slices.Equal(given[:cap(given)], whole) {
			t.Errorf("an answer lies in the room of %v: %v", plain, given[:cap(given)])
		}
		again := mustAssign(t, given)
		spoilRow(given)
		if !sameRows(again, want) {
			t.Errorf("%v was kept in its answer: %v", plain, again)
		}
	}
	for _, c := range assignFaults() {
		given := roomy(c.r)
		whole := slices.Clone(given[:cap(given)])
		window.Assign(given, c.col, c.size, c.slide)
		if !slices.Equal(given[:cap(given)], whole) {
			t.Errorf("%s: the row was changed", c.name)
		}
	}
}

func TestRowsOfAnAnswerAreTheirOwn(t *testing.T) { // the rule of memory: one of them is spoilt, the others tell the same
	for _, plain := range inWindows() {
		want, _ := askedAssign(plain, 1, 10, 3)
		for spoilt := range want {
			given := roomy(plain) // in its room they would all come to lie at one place
			l, other := mustAssign(t, given), mustAssign(t, given)
			spoilRow(l[spoilt])
			if !sameRows(other, want) {
				t.Errorf("two answers share memory: %v", other)
			}
			for i := range l {
				if i != spoilt && !row.Same(l[i], want[i]) {
					t.Errorf("the rows %d and %d of an answer share memory: %v", i, spoilt, l[i])
				}
			}
		}
	}
}

// places are where the values of answers lie, each of which may be told but once.
type places map[unsafe.Pointer]string

func takeAll[T any](t *testing.T, p places, name string, l []T) {
	t.Helper()
	for i := range l[:cap(l)] {
		place := unsafe.Pointer(&l[:cap(l)][i])
		if other, there := p[place]; there {
			t.Fatalf("%s lies where %s does", name, other)
		}
		p[place] = name
	}
}

func TestAnswersAreTheirOwn(t *testing.T) { // the rule of memory: spare room too
	taken := places{} // it keeps what was told, so that no memory is told twice only because it came to be free
	for _, plain := range inWindows() {
		given := roomy(plain)
		takeAll(t, taken, "what is handed in", given)
		for range 3 {
			l := mustAssign(t, given)
			takeAll(t, taken, "Assign", l)
			for _, r := range l {
				takeAll(t, taken, "Assign's row", r)
			}
			for _, v := range []int{7, 8, -7} {
				windows, e := window.Buckets(v, 10, 3)
				if len(windows) == 0 || e != api.OK {
					t.Fatalf("Buckets(%d, 10, 3) = %d, %d", v, windows, e)
				}
				takeAll(t, taken, "Buckets", windows)
			}
		}
	}
}

func TestListsOfAnswersMayBeSpoilt(t *testing.T) { // the rule of memory, and that answers hang on arguments alone
	r := api.Row{s("a"), n(7)}
	for range 3 {
		windows, e := window.Buckets(7, 10, 5)
		if !slices.Equal(windows, []int{0, 5}) || e != api.OK {
			t.Errorf("Buckets(7, 10, 5) = %d, %d", windows, e)
		}
		l, e := window.Assign(r, 1, 10, 5)
		if !sameRows(l, []api.Row{{s("a"), n(7), n(0)}, {s("a"), n(7), n(5)}}) || e != api.OK {
			t.Errorf("Assign = %v, %d", l, e)
		}
		for i := range windows[:cap(windows)] {
			windows[:cap(windows)][i] = -99
		}
		for i := range l[:cap(l)] {
			l[:cap(l)][i] = api.Row{s("spoilt")}
		}
		window.Buckets(high, 5, 5)
		window.Assign(nil, 0, 5, 5)
		window.Floor(low, 0)
		window.Check(low, high)
	}
}

func FuzzWindows(f *testing.F) { // P14.1 to P14.3
	f.Add(7, 10, 5, 1)
	f.Add(-1, 5, 5, 0)
	f.Add(4, 2, 5, 3)
	f.Add(-point, span, span/api.MaxWindows, 2)
	f.Add(point+1, 65, 1, -1)
	f.Fuzz(func(t *testing.T, v, size, slide, col int) {
		// Also folded to what may be, for most numbers there are may not.
		for _, v := range []int{v, v % point} {
			for _, two := range [][2]int{{size, slide}, {size % span, slide % span}, {size % 1000, slide % 100}} {
				if e, want := window.Check(two[0], two[1]), askedCheck(two[0], two[1]); e != want {
					t.Errorf("Check(%d, %d) = %d, want %d", two[0], two[1], e, want)
				}
				holdFloor(t, v, two[1])
				holdBuckets(t, v, two[0], two[1])
				r := mixed(max(0, col%20))
				if many := len(r); many > 0 {
					r[many/2] = n(v)
					holdAssign(t, r, many/2, two[0], two[1])
				}
				holdAssign(t, r, col, two[0], two[1])
			}
		}
	})
}

package weigh_test

import (
	"encoding/binary"
	"math"
	"math/big"
	"slices"
	"testing"

	"runnel/api"
	"runnel/weigh"
)

const (
	low  = math.MinInt
	high = math.MaxInt
	root = 3037000499 // the greatest number whose square is one that may be
)

// numbers are ordinary ones of either sign, and the edges with those beside them.
func numbers() []int {
	l := []int{
		low, low + 1, low + 2, high, high - 1, high - 2,
		low / 2, low/2 - 1, low/2 + 1, high / 2, high/2 + 1, high/2 + 2,
		low / 3, low/3 - 1, high / 3, high/3 + 1,
		root, root + 1, -root, -root - 1,
		0, 1, -1, 2, -2, 3, -3, 4, -4, 5, 7, -7, 10, -12, 1000, -1000, 123456789, -987654321,
	}
	for _, bit := range []int{30, 31, 32, 33, 61, 62} {
		one := 1 << bit
		l = append(l, one, one-1, one+1, -one, -one-1, -one+1)
	}
	return l
}

func exactly(n int) *big.Int { return big.NewInt(int64(n)) }

// asked is what must be answered for a number that is told exactly.
func asked(exact *big.Int) (int, api.Errno) {
	if !exact.IsInt64() {
		return 0, api.ErrOver
	}
	return int(exact.Int64()), api.OK
}

// ofTwo is a function of two numbers, and what it must reckon.
type ofTwo struct {
	name  string
	of    func(a, b int) (int, api.Errno)
	exact func(z, a, b *big.Int) *big.Int
}

func allOfTwo() []ofTwo {
	return []ofTwo{
		{"Add", weigh.Add, (*big.Int).Add},
		{"Sub", weigh.Sub, (*big.Int).Sub},
		{"Mul", weigh.Mul, (*big.Int).Mul},
	}
}

func holdTwo(t *testing.T, a, b int) {
	t.Helper()
	for _, f := range allOfTwo() {
		want, wantErr := asked(f.exact(new(big.Int), exactly(a), exactly(b)))
		if n, e := f.of(a, b); n != want || e != wantErr {
			t.Errorf("%s(%d, %d) = %d, %d, want %d, %d", f.name, a, b, n, e, want, wantErr)
		}
	}
}

func holdOne(t *testing.T, a int) {
	t.Helper()
	want, wantErr := asked(new(big.Int).Neg(exactly(a)))
	if n, e := weigh.Neg(a); n != want || e != wantErr {
		t.Errorf("Neg(%d) = %d, %d, want %d, %d", a, n, e, want, wantErr)
	}
}

// holdUndone asks that what is added is taken away again, and that the order plays no part.
func holdUndone(t *testing.T, a, b int) {
	t.Helper()
	if sum, e := weigh.Add(a, b); e == api.OK {
		if n, e := weigh.Sub(sum, b); n != a || e != api.OK {
			t.Errorf("Sub(Add(%d, %d), %d) = %d, %d", a, b, b, n, e)
		}
		if n, e := weigh.Sub(sum, a); n != b || e != api.OK {
			t.Errorf("Sub(Add(%d, %d), %d) = %d, %d", a, b, a, n, e)
		}
	}
	if less, e := weigh.Sub(a, b); e == api.OK {
		if n, e := weigh.Add(less, b); n != a || e != api.OK {
			t.Errorf("Add(Sub(%d, %d), %d) = %d, %d", a, b, b, n, e)
		}
	}
	for name, of := range map[string]func(a, b int) (int, api.Errno){
		"Add": weigh.Add,
		"Mul": weigh.Mul,
		"Sum": func(a, b int) (int, api.Errno) { return weigh.Sum([]int{a, b}) },
		"Dot": func(a, b int) (int, api.Errno) { return weigh.Dot([]int{a}, []int{b}) },
	} {
		n, e := of(a, b)
		if m, f := of(b, a); n != m || e != f {
			t.Errorf("%s of %d and %d: %d, %d, and turned round %d, %d", name, a, b, n, e, m, f)
		}
	}
}

func TestOfTwo(t *testing.T) { // P6.1: told by hand
	for _, c := range []struct {
		name      string
		of        func(a, b int) (int, api.Errno)
		a, b      int
		want      int
		wantErrno api.Errno
	}{
		{"Add", weigh.Add, 1, 2, 3, api.OK},
		{"Add", weigh.Add, -5, 3, -2, api.OK},
		{"Add", weigh.Add, 0, 0, 0, api.OK},
		{"Add", weigh.Add, high, 0, high, api.OK},
		{"Add", weigh.Add, low, 0, low, api.OK},
		{"Add", weigh.Add, 0, low, low, api.OK},
		{"Add", weigh.Add, high - 1, 1, high, api.OK},
		{"Add", weigh.Add, low + 1, -1, low, api.OK},
		{"Add", weigh.Add, low, high, -1, api.OK},
		{"Add", weigh.Add, high, 1, 0, api.ErrOver},
		{"Add", weigh.Add, 1, high, 0, api.ErrOver},
		{"Add", weigh.Add, low, -1, 0, api.ErrOver},
		{"Add", weigh.Add, -1, low, 0, api.ErrOver},
		{"Add", weigh.Add, high, high, 0, api.ErrOver},
		{"Add", weigh.Add, low, low, 0, api.ErrOver},         // wraps round to 0
		{"Add", weigh.Add, 1 << 62, 1 << 62, 0, api.ErrOver}, // the first that is too great
		{"Add", weigh.Add, -1 << 62, -1 << 62, low, api.OK},  // the last that is not
		{"Add", weigh.Add, -1<<62 - 1, -1 << 62, 0, api.ErrOver},

		{"Sub", weigh.Sub, 5, 7, -2, api.OK},
		{"Sub", weigh.Sub, -5, -7, 2, api.OK},
		{"Sub", weigh.Sub, 0, 0, 0, api.OK},
		{"Sub", weigh.Sub, low, 0, low, api.OK},
		{"Sub", weigh.Sub, low, low, 0, api.OK},
		{"Sub", weigh.Sub, high, high, 0, api.OK},
		{"Sub", weigh.Sub, -1, low, high, api.OK}, // the negative of low is too great, the difference is not
		{"Sub", weigh.Sub, -1, high, low, api.OK},
		{"Sub", weigh.Sub, 0, high, low + 1, api.OK},
		{"Sub", weigh.Sub, 0, low, 0, api.ErrOver},
		{"Sub", weigh.Sub, 1, low, 0, api.ErrOver},
		{"Sub", weigh.Sub, low, 1, 0, api.ErrOver},
		{"Sub", weigh.Sub, -2, high, 0, api.ErrOver},
		{"Sub", weigh.Sub, high, -1, 0, api.ErrOver},
		{"Sub", weigh.Sub, high, low, 0, api.ErrOver},
		{"Sub", weigh.Sub, low, high, 0, api.ErrOver},

		{"Mul", weigh.Mul, 3, -4, -12, api.OK},
		{"Mul", weigh.Mul, -3, -4, 12, api.OK},
		{"Mul", weigh.Mul, 0, low, 0, api.OK},
		{"Mul", weigh.Mul, low, 0, 0, api.OK},
		{"Mul", weigh.Mul, high, 0, 0, api.OK},
		{"Mul", weigh.Mul, low, 1, low, api.OK},
		{"Mul", weigh.Mul, 1, low, low, api.OK},
		{"Mul", weigh.Mul, high, -1, low + 1, api.OK},
		{"Mul", weigh.Mul, -1, high, low + 1, api.OK},
		{"Mul", weigh.Mul, low, -1, 0, api.ErrOver},
		{"Mul", weigh.Mul, -1, low, 0, api.ErrOver},
		{"Mul", weigh.Mul, low, low, 0, api.ErrOver}, // wraps round to 0
		{"Mul", weigh.Mul, high, high, 0, api.ErrOver},
		{"Mul", weigh.Mul, low, high, 0, api.ErrOver},
		{"Mul", weigh.Mul, 1 << 32, 1 << 31, 0, api.ErrOver},
		{"Mul", weigh.Mul, -1 << 32, 1 << 31, low, api.OK},
		{"Mul", weigh.Mul, -1 << 32, -1 << 31, 0, api.ErrOver},
		{"Mul", weigh.Mul, 1 << 32, 1 << 32, 0, api.ErrOver}, // wraps round to 0
		{"Mul", weigh.Mul, 3, 1<<62 + 1, 0, api.ErrOver},     // wraps round to less than 0
		{"Mul", weigh.Mul, 5, 1 << 62, 0, api.ErrOver},       // wraps round to more than 0
		{"Mul", weigh.Mul, 7, high / 7, high, api.OK},        // 7 divides it
		{"Mul", weigh.Mul, 7, high/7 + 1, 0, api.ErrOver},
		{"Mul", weigh.Mul, root, root, root * root, api.OK},
		{"Mul", weigh.Mul, root + 1, root + 1, 0, api.ErrOver},
		{"Mul", weigh.Mul, -root - 1, root + 1, 0, api.ErrOver},
	} {
		if n, e := c.of(c.a, c.b); n != c.want || e != c.wantErrno {
			t.Errorf("%s(%d, %d) = %d, %d, want %d, %d", c.name, c.a, c.b, n, e, c.want, c.wantErrno)
		}
	}
}

func TestNeg(t *testing.T) { // P6.1: told by hand
	for _, c := range []struct {
		a, want   int
		wantErrno api.Errno
	}{
		{0, 0, api.OK},
		{1, -1, api.OK},
		{-1, 1, api.OK},
		{-12, 12, api.OK},
		{high, low + 1, api.OK},
		{low + 1, high, api.OK},
		{low, 0, api.ErrOver},
	} {
		if n, e := weigh.Neg(c.a); n != c.want || e != c.wantErrno {
			t.Errorf("Neg(%d) = %d, %d, want %d, %d", c.a, n, e, c.want, c.wantErrno)
		}
	}
}

func TestEachTwo(t *testing.T) { // P6.1, P6.3: held against numbers of any length
	for _, a := range numbers() {
		holdOne(t, a)
		for _, b := range numbers() {
			holdTwo(t, a, b)
			holdUndone(t, a, b)
		}
	}
}

func TestJustFitAndJustNot(t *testing.T) { // P6.1: what is the last one of all that fit, and the one behind it
	for _, a := range numbers() {
		holdTwo(t, a, high-a) // one of these, for any a, is where the sum or the difference begins to be too great
		holdTwo(t, a, high-a+1)
		holdTwo(t, a, low-a)
		holdTwo(t, a, low-a-1)
		holdTwo(t, a, a-high)
		holdTwo(t, a, a-high-1)
		holdTwo(t, a, a-low)
		holdTwo(t, a, a-low+1)
		if a == 0 {
			continue
		}
		for _, edge := range []int{low, high} {
			for beside := -2; beside <= 2; beside++ {
				holdTwo(t, a, edge/a+beside)
				holdTwo(t, edge/a+beside, a)
			}
		}
	}
}

// sumOf is Sum as the chapter says it, of numbers of any length.
func sumOf(l []*big.Int) (int, api.Errno) {
	sum := new(big.Int)
	for _, n := range l {
		if !sum.Add(sum, n).IsInt64() {
			return 0, api.ErrOver
		}
	}
	return asked(sum)
}

func holdSum(t *testing.T, l []int) {
	t.Helper()
	var exact []*big.Int
	for _, n := range l {
		exact = append(exact, exactly(n))
	}
	want, wantErr := sumOf(exact)
	if n, e := weigh.Sum(l); n != want || e != wantErr {
		t.Errorf("Sum(%v) = %d, %d, want %d, %d", l, n, e, want, wantErr)
	}
}

func holdDot(t *testing.T, a, b []int) {
	t.Helper()
	want, wantErr := 0, api.ErrArg
	if len(a) == len(b) {
		// A sum up to a product that is too great can be too great itself, and with either there is the same error.
		wantErr = api.OK
		var exact []*big.Int
		for i := range a {
			product := new(big.Int).Mul(exactly(a[i]), exactly(b[i]))
			if !product.IsInt64() {
				wantErr = api.ErrOver
			}
			exact = append(exact, product)
		}
		if wantErr == api.OK {
			want, wantErr = sumOf(exact)
		}
	}
	if n, e := weigh.Dot(a, b); n != want || e != wantErr {
		t.Errorf("Dot(%v, %v) = %d, %d, want %d, %d", a, b, n, e, want, wantErr)
	}
}

func TestSum(t *testing.T) { // P6.2: told by hand
	for _, c := range []struct {
		l         []int
		want      int
		wantErrno api.Errno
	}{
		{nil, 0, api.OK},
		{[]int{}, 0, api.OK},
		{[]int{0}, 0, api.OK},
		{[]int{-7}, -7, api.OK},
		{[]int{high}, high, api.OK},
		{[]int{low}, low, api.OK},
		{[]int{1, -2, 30, 400}, 429, api.OK},
		{[]int{low, high, 1}, 0, api.OK},
		{[]int{low, high, high, 1}, high, api.OK},
		{[]int{high, low, 1, low, 0}, low, api.OK},
		{[]int{high - 1, 1}, high, api.OK},
		{[]int{low + 1, -1}, low, api.OK},
		{[]int{high, 0, 0, -1, 1}, high, api.OK},
		{[]int{1, high, -1}, 0, api.ErrOver}, // would fit in the end
		{[]int{high, 1, -1}, 0, api.ErrOver},
		{[]int{low, -1, 1}, 0, api.ErrOver},
		{[]int{-1, low, 1}, 0, api.ErrOver},
		{[]int{high, high, low, low}, 0, api.ErrOver},
		{[]int{high, low, low, 1, 0}, 0, api.ErrOver},
		{[]int{low, low}, 0, api.ErrOver},
		{[]int{low, low, 5}, 0, api.ErrOver},
		{[]int{high, high, 2}, 0, api.ErrOver}, // wraps round twice, to 0
		{[]int{3, 4, high}, 0, api.ErrOver},    // the last one
		{[]int{-3, -4, low}, 0, api.ErrOver},
	} {
		if n, e := weigh.Sum(c.l); n != c.want || e != c.wantErrno {
			t.Errorf("Sum(%v) = %d, %d, want %d, %d", c.l, n, e, c.want, c.wantErrno)
		}
	}
}

func TestSumGoesFromTheLeft(t *testing.T) { // P6.2: the same numbers fit or not, by their order
	for _, c := range []struct {
		l         []int
		wantErrno api.Errno
	}{
		{[]int{high, -1, 1}, api.OK},
		{[]int{-1, high, 1}, api.OK},
		{[]int{-1, 1, high}, api.OK},
		{[]int{1, -1, high}, api.OK},
		{[]int{high, 1, -1}, api.ErrOver},
		{[]int{1, high, -1}, api.ErrOver},
	} {
		want := 0
		if c.wantErrno == api.OK {
			want = high
		}
		if n, e := weigh.Sum(c.l); n != want || e != c.wantErrno {
			t.Errorf("Sum(%v) = %d, %d, want %d, %d", c.l, n, e, want, c.wantErrno)
		}
		ones := slices.Repeat([]int{1}, len(c.l))
		if n, e := weigh.Dot(c.l, ones); n != want || e != c.wantErrno {
			t.Errorf("Dot(%v, %v) = %d, %d, want %d, %d", c.l, ones, n, e, want, c.wantErrno)
		}
	}
}

func TestDot(t *testing.T) { // P6.2: told by hand
	for _, c := range []struct {
		a, b      []int
		want      int
		wantErrno api.Errno
	}{
		{nil, nil, 0, api.OK},
		{nil, []int{}, 0, api.OK},
		{[]int{3}, []int{-4}, -12, api.OK},
		{[]int{2, 3}, []int{5, -1}, 7, api.OK},
		{[]int{high, 0}, []int{1, low}, high, api.OK},
		{[]int{low, high, 1}, []int{1, 1, 1}, 0, api.OK},
		{[]int{high, high}, []int{-1, 1}, 0, api.OK},
		{[]int{-1 << 32, 2}, []int{1 << 31, 1 << 61}, -1 << 62, api.OK},
		{[]int{1}, []int{low}, low, api.OK},

		{[]int{2}, nil, 0, api.ErrArg},
		{nil, []int{2}, 0, api.ErrArg},
		{[]int{1, 2, 3}, []int{1, 2}, 0, api.ErrArg},
		{[]int{1, 2}, []int{1, 2, 3}, 0, api.ErrArg},
		{[]int{0}, []int{0, 0}, 0, api.ErrArg},
		{[]int{low, 1}, []int{-1}, 0, api.ErrArg},            // also a product that is too great
		{[]int{high, high}, []int{1, 1, 1}, 0, api.ErrArg},   // also a sum that is
		{[]int{high, high, low}, []int{2, 2}, 0, api.ErrArg}, // also both

		{[]int{low}, []int{-1}, 0, api.ErrOver},
		{[]int{-1}, []int{low}, 0, api.ErrOver},
		{[]int{1, 2, 1 << 32}, []int{1, 2, 1 << 31}, 0, api.ErrOver},        // the last product
		{[]int{1 << 32, 1 << 32}, []int{1 << 31, -1 << 31}, 0, api.ErrOver}, // would fit in the end
		{[]int{-1 << 32, -1 << 32}, []int{1 << 31, -1 << 31}, 0, api.ErrOver},
		{[]int{-1, 1 << 32}, []int{1, 1 << 31}, 0, api.ErrOver}, // the product alone is too great, the sum would fit
		{[]int{1 << 32}, []int{1 << 32}, 0, api.ErrOver},        // wraps round to 0
		{[]int{high, 1, 1}, []int{1, 1, -1}, 0, api.ErrOver},    // a sum that would fit in the end
		{[]int{low, 1, -1}, []int{1, -1, -1}, 0, api.ErrOver},
		{[]int{low, high, 1}, []int{-1, 1, 1}, 0, api.ErrOver}, // a product, and then a sum
		{[]int{high, 1, low}, []int{1, 1, -1}, 0, api.ErrOver}, // a sum, and then a product
	} {
		if n, e := weigh.Dot(c.a, c.b); n != c.want || e != c.wantErrno {
			t.Errorf("Dot(%v, %v) = %d, %d, want %d, %d", c.a, c.b, n, e, c.want, c.wantErrno)
		}
	}
}

// lists are all lists of up to four of some numbers.
func lists() [][]int {
	few := []int{low, low + 1, -1 << 62, -3, -1, 0, 1, 2, 1 << 62, high - 1, high}
	all := [][]int{nil}
	for from := 0; len(all[from]) < 4; from++ {
		for _, n := range few {
			all = append(all, append(slices.Clone(all[from]), n))
		}
	}
	return all
}

func TestSumOfLists(t *testing.T) { // P6.2
	for _, l := range lists() {
		holdSum(t, l)
	}
}

func TestDotOfLists(t *testing.T) { // P6.2, P6.3
	all := lists()
	for i, a := range all {
		for _, step := range []int{1, 7, 101, 1009, 7001} {
			b := all[(i*step+step/2)%len(all)]
			holdDot(t, a, b)
			n, e := weigh.Dot(a, b)
			if m, f := weigh.Dot(b, a); n != m || e != f {
				t.Fatalf("Dot(%v, %v) = %d, %d, and turned round %d, %d", a, b, n, e, m, f)
			}
			if len(a) == len(b) {
				continue
			}
			if e != api.ErrArg {
				t.Fatalf("Dot(%v, %v): %d", a, b, e)
			}
			most := min(len(a), len(b))
			holdDot(t, a[:most], b[:most])
		}
	}
}

func TestSumAndDotAreMadeOfAddAndMul(t *testing.T) { // P6.2: Sum is Add after Add, Dot is Sum of Mul
	for _, l := range lists() {
		sum, e := 0, api.OK
		for _, n := range l {
			if sum, e = weigh.Add(sum, n); e != api.OK {
				break
			}
		}
		if got, f := weigh.Sum(l); got != sum || f != e {
			t.Fatalf("Sum(%v) = %d, %d, want %d, %d", l, got, f, sum, e)
		}
		ones := slices.Repeat([]int{1}, len(l))
		if got, f := weigh.Dot(l, ones); got != sum || f != e {
			t.Fatalf("Dot(%v, ones) = %d, %d, want %d, %d", l, got, f, sum, e)
		}
	}
}

func TestMany(t *testing.T) { // P6.2
	const many = 1 << 20
	l := slices.Repeat([]int{1 << 43}, many) // 2^63 in all
	if n, e := weigh.Sum(l); n != 0 || e != api.ErrOver {
		t.Errorf("Sum = %d, %d", n, e)
	}
	if n, e := weigh.Sum(l[1:]); n != high-1<<43+1 || e != api.OK {
		t.Errorf("Sum = %d, %d", n, e)
	}
	ones := slices.Repeat([]int{-1}, many)
	if n, e := weigh.Dot(l, ones); n != low || e != api.OK {
		t.Errorf("Dot = %d, %d", n, e)
	}
	ones[many-1] = -2
	if n, e := weigh.Dot(l, ones); n != 0 || e != api.ErrOver {
		t.Errorf("Dot = %d, %d", n, e)
	}
}

// roomy is the list with spare room behind it.
func roomy(l []int) []int { return append(slices.Clone(l), 77, -77, low)[:len(l)] }

func scribble(l []int) {
	l = l[:cap(l)]
	for i := range l {
		l[i] = -99
	}
}

func TestWhatIsHandedInIsLeft(t *testing.T) { // the rule of memory
	all := lists()
	for i, a := range all {
		b := all[(i*7+3)%len(all)]
		one, two := roomy(a), roomy(b)
		wholeOne, wholeTwo := slices.Clone(one[:cap(one)]), slices.Clone(two[:cap(two)])
		sum, sumErr := weigh.Sum(one)
		dot, dotErr := weigh.Dot(one, two)
		same, sameErr := weigh.Dot(one, one)
		if !slices.Equal(one[:cap(one)], wholeOne) || !slices.Equal(two[:cap(two)], wholeTwo) {
			t.Fatalf("%v and %v were changed", a, b)
		}
		scribble(one)
		scribble(two)
		if n, e := weigh.Sum(a); n != sum || e != sumErr {
			t.Fatalf("Sum: %v was kept, or its room counts", a)
		}
		if n, e := weigh.Dot(a, b); n != dot || e != dotErr {
			t.Fatalf("Dot: %v or %v was kept, or its room counts", a, b)
		}
		if n, e := weigh.Dot(a, slices.Clone(a)); n != same || e != sameErr {
			t.Fatalf("Dot: %v was kept, or its room counts", a)
		}
	}
}

func TestAnswersHangOnArgumentsAlone(t *testing.T) { // what was too great ahead of a call plays no part in it
	weigh.Sum([]int{high, 1})
	weigh.Dot([]int{low}, []int{-1})
	weigh.Dot([]int{low}, nil)
	weigh.Mul(high, high)
	weigh.Neg(low)
	for range 2 {
		if n, e := weigh.Sum([]int{2, 3}); n != 5 || e != api.OK {
			t.Errorf("Sum = %d, %d", n, e)
		}
		if n, e := weigh.Dot([]int{2, 3}, []int{5, -1}); n != 7 || e != api.OK {
			t.Errorf("Dot = %d, %d", n, e)
		}
		holdTwo(t, 3, -4)
		holdOne(t, 3)
	}
}

func FuzzNumbers(f *testing.F) { // P6.1 to P6.3
	f.Add(1, 2, []byte{1, 0, 0, 0, 0, 0, 0, 128})
	f.Add(low, -1, binary.BigEndian.AppendUint64(nil, high))
	f.Add(root, -root, slices.Repeat([]byte{0, 0, 0, 0, 181, 4, 243, 51}, 4))
	f.Fuzz(func(t *testing.T, a, b int, text []byte) {
		holdOne(t, a)
		holdTwo(t, a, b)
		holdUndone(t, a, b)
		l := listOf(text)
		holdSum(t, l)
		holdSum(t, append([]int{a, b}, l...))
		holdDot(t, l, slices.Repeat([]int{a}, len(l)))
		half := len(l) / 2
		holdDot(t, l[:half], l[half:])
	})
}

// listOf is the numbers that each eight bytes tell, every second one a small one, so that products fit, too.
func listOf(text []byte) []int {
	text = text[:min(len(text), 256)]
	var l []int
	for ; len(text) >= 8; text = text[8:] {
		n := int(binary.BigEndian.Uint64(text))
		if len(l)%2 == 1 {
			n >>= 40
		}
		l = append(l, n)
	}
	return l
}

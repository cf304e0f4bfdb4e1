package group_test

import (
	"fmt"
	"math"
	"math/big"
	"slices"
	"testing"
	"unsafe"

	"runnel/api"
	"runnel/group"
	"runnel/row"
	"runnel/zset"
)

const (
	low  = math.MinInt
	high = math.MaxInt
)

func n(x int) api.Val    { return api.Val{Kind: api.KindInt, Int: x} }
func s(x string) api.Val { return api.Val{Kind: api.KindStr, Str: x} }

// c is so many of a row.
func c(diff int, values ...api.Val) api.Count { return api.Count{Row: values, Diff: diff} }

// allKinds are the kinds that there are.
func allKinds() []int {
	return []int{api.GroupDistinct, api.GroupCount, api.GroupSum, api.GroupMin, api.GroupMax, api.GroupTop}
}

// badKinds are kinds that there are not.
func badKinds() []int { return []int{-1, 6, 7, -2, 100, low, low + 1, high, high - 1} }

func kindName(kind int) string {
	names := []string{"GroupDistinct", "GroupCount", "GroupSum", "GroupMin", "GroupMax", "GroupTop"}
	if kind >= 0 && kind < len(names) {
		return names[kind]
	}
	return fmt.Sprint("kind ", kind)
}

// sameCounts: are they, one by one, in this order?
func sameCounts(a, b []api.Count) bool {
	return slices.EqualFunc(a, b, func(x, y api.Count) bool { return row.Same(x.Row, y.Row) && x.Diff == y.Diff })
}

// added is a sum that is reckoned with numbers of any length, and is too great for good once it was so on its way.
type added struct {
	sum  big.Int
	over bool
}

func (a *added) add(product *big.Int) {
	a.over = a.over || !product.IsInt64()
	a.sum.Add(&a.sum, product)
	a.over = a.over || !a.sum.IsInt64()
}

func times(x, y int) *big.Int { return new(big.Int).Mul(big.NewInt(int64(x)), big.NewInt(int64(y))) }

// askedThere is what there is of each row in all, in the order of rows.
func askedThere(l []api.Count) ([]api.Count, api.Errno) {
	var there []api.Count
	for i, x := range l {
		first := slices.IndexFunc(l, func(y api.Count) bool { return row.Same(x.Row, y.Row) })
		if first < i {
			continue
		}
		var all added
		for _, y := range l {
			if row.Same(x.Row, y.Row) {
				all.add(times(1, y.Diff))
			}
		}
		if all.over {
			return nil, api.ErrOver
		}
		if all.sum.Sign() != 0 {
			there = append(there, api.Count{Row: x.Row, Diff: int(all.sum.Int64())})
		}
	}
	slices.SortFunc(there, func(x, y api.Count) int { return row.Order(x.Row, y.Row) })
	return there, api.OK
}

// askedOne is what comes of the rows with one key, which stand in order.
func askedOne(kind, many int, key api.Row, l []api.Count) ([]api.Count, api.Errno) {
	switch kind {
	case api.GroupCount:
		return askedCount(key, l)
	case api.GroupSum:
		return askedSum(many, key, l)
	case api.GroupMin, api.GroupDistinct:
		many = 1
	}
	var told []api.Count
	for _, x := range l {
		if x.Diff > 0 && kind == api.GroupMax {
			told = []api.Count{{Row: x.Row, Diff: 1}}
			continue
		}
		// One by one, till there are as many as are asked for.
		often := 0
		for ; often < x.Diff && many > 0; often++ {
			many--
		}
		if often > 0 {
			told = append(told, api.Count{Row: x.Row, Diff: often})
		}
	}
	return told, api.OK
}

func askedCount(key api.Row, l []api.Count) ([]api.Count, api.Errno) {
	var all added
	for _, x := range l {
		all.add(times(1, x.Diff))
	}
	if all.over {
		return nil, api.ErrOver
	}
	if all.sum.Sign() == 0 {
		return nil, api.OK
	}
	return []api.Count{{Row: append(slices.Clone(key), n(int(all.sum.Int64()))), Diff: 1}}, api.OK
}

func askedSum(col int, key api.Row, l []api.Count) ([]api.Count, api.Errno) {
	for _, x := range l {
		if col < 0 || col >= len(x.Row) {
			return nil, api.ErrRange
		}
		if x.Row[col].Kind != api.KindInt {
			return nil, api.ErrType
		}
	}
	var all added
	for _, x := range l {
		all.add(times(x.Diff, x.Row[col].Int))
	}
	if all.over {
		return nil, api.ErrOver
	}
	return []api.Count{{Row: append(slices.Clone(key), n(int(all.sum.Int64()))), Diff: 1}}, api.OK
}

func askedArgs(kind, key, many int, l []api.Count) api.Errno {
	if kind < 0 || kind > 5 {
		return api.ErrKind
	}
	for _, x := range l {
		if kind != api.GroupDistinct && len(x.Row) < key {
			return api.ErrRange
		}
	}
	if kind != api.GroupDistinct && key < 0 {
		return api.ErrRange
	}
	if kind == api.GroupTop && (many < 1 || many > 1000) {
		return api.ErrArg
	}
	return api.OK
}

// askedMake asks of each row that is there which others have its key, and reckons what comes of those by themselves.
func askedMake(kind, key, many int, l []api.Count) ([]api.Count, api.Errno) {
	if e := askedArgs(kind, key, many, l); e != api.OK {
		return nil, e
	}
	there, e := askedThere(l)
	if e != api.OK {
		return nil, e
	}
	var keys []api.Row
	for _, x := range there {
		k := x.Row
		if kind != api.GroupDistinct {
			k = k[:key]
		}
		if !slices.ContainsFunc(keys, func(other api.Row) bool { return row.Same(k, other) }) {
			keys = append(keys, k)
		}
	}
	slices.SortFunc(keys, row.Order)
	var told []api.Count
	for _, k := range keys {
		var with []api.Count
		for _, x := range there {
			if len(x.Row) >= len(k) && row.Same(x.Row[:len(k)], k) && (kind != api.GroupDistinct || len(x.Row) == len(k)) {
				with = append(with, x)
			}
		}
		of, e := askedOne(kind, many, k, with)
		if e != api.OK {
			return nil, e
		}
		told = append(told, of...)
	}
	return told, api.OK
}

func askedCheck(kind, key, many int, kinds []int) ([]int, api.Errno) {
	if slices.Index(allKinds(), kind) < 0 {
		return nil, api.ErrKind
	}
	if kind != api.GroupDistinct && min(max(key, 0), len(kinds)) != key {
		return nil, api.ErrRange
	}
	if kind == api.GroupSum && !(0 <= many && many < len(kinds)) {
		return nil, api.ErrRange
	}
	if kind == api.GroupSum && kinds[many] != 0 {
		return nil, api.ErrType
	}
	if kind == api.GroupTop && min(max(many, 1), 1000) != many {
		return nil, api.ErrArg
	}
	if kind != api.GroupCount && kind != api.GroupSum {
		return append([]int{}, kinds...), api.OK
	}
	if key == 16 {
		return nil, api.ErrMany
	}
	return append(append([]int{}, kinds[:key]...), 0), api.OK
}

func askedKey(kind, key int, r api.Row) (api.Row, api.Errno) {
	if kind == api.GroupDistinct {
		return r, api.OK
	}
	if key < 0 || key > len(r) {
		return nil, api.ErrRange
	}
	return r[:key], api.OK
}

func holdMake(t *testing.T, kind, key, many int, l []api.Count) {
	t.Helper()
	want, wantErr := askedMake(kind, key, many, l)
	if got, e := group.Make(kind, key, many, l); !sameCounts(got, want) || e != wantErr {
		t.Errorf("Make(%s, %d, %d, %v) = %v, %d, want %v, %d", kindName(kind), key, many, l, got, e, want, wantErr)
	}
}

func holdCheck(t *testing.T, kind, key, many int, kinds []int) {
	t.Helper()
	want, wantErr := askedCheck(kind, key, many, kinds)
	if got, e := group.Check(kind, key, many, kinds); !slices.Equal(got, want) || e != wantErr {
		t.Errorf("Check(%s, %d, %d, %v) = %v, %d, want %v, %d", kindName(kind), key, many, kinds, got, e, want, wantErr)
	}
}

func holdKey(t *testing.T, kind, key int, r api.Row) {
	t.Helper()
	want, wantErr := askedKey(kind, key, r)
	if got, e := group.Key(kind, key, r); !row.Same(got, want) || e != wantErr {
		t.Errorf("Key(%s, %d, %v) = %v, %d, want %v, %d", kindName(kind), key, r, got, e, want, wantErr)
	}
}

func TestCheck(t *testing.T) { // P15.1: told by hand
	const num, text = api.KindInt, api.KindStr
	for _, k := range []struct {
		kind, key, n int
		kinds        []int
		want         []int
	}{
		{api.GroupDistinct, 0, 0, []int{num, text}, []int{num, text}},
		{api.GroupDistinct, 1, 0, []int{num, text}, []int{num, text}},
		{api.GroupDistinct, -1, 0, []int{num, text}, []int{num, text}}, // its key is not asked
		{api.GroupDistinct, 3, -5, []int{num, text}, []int{num, text}},
		{api.GroupDistinct, low, low, []int{text}, []int{text}},
		{api.GroupDistinct, high, high, []int{text}, []int{text}},
		{api.GroupDistinct, 16, 0, make([]int, 16), make([]int, 16)},
		{api.GroupDistinct, 0, 0, nil, nil},
		{api.GroupCount, 0, 0, []int{text, num}, []int{num}},
		{api.GroupCount, 1, 0, []int{text, num}, []int{text, num}},
		{api.GroupCount, 2, 0, []int{text, text}, []int{text, text, num}},
		{api.GroupCount, 2, 0, []int{num, text, text, num}, []int{num, text, num}},
		{api.GroupCount, 1, -7, []int{text}, []int{text, num}}, // it asks no n
		{api.GroupCount, 1, 7, []int{text}, []int{text, num}},
		{api.GroupCount, 0, 0, nil, []int{num}},
		{api.GroupCount, 0, 0, []int{}, []int{num}},
		{api.GroupCount, 15, 0, make([]int, 16), make([]int, 16)},
		{api.GroupCount, 15, 0, make([]int, 15), make([]int, 16)},
		{api.GroupSum, 0, 0, []int{num, text}, []int{num}},
		{api.GroupSum, 0, 1, []int{text, num}, []int{num}},
		{api.GroupSum, 1, 2, []int{text, text, num}, []int{text, num}},
		{api.GroupSum, 2, 0, []int{num, text, text}, []int{num, text, num}}, // a column of the key
		{api.GroupSum, 3, 2, []int{text, text, num}, []int{text, text, num, num}},
		{api.GroupSum, 15, 15, make([]int, 16), make([]int, 16)},
		{api.GroupSum, 15, 0, make([]int, 15), make([]int, 16)},
		{api.GroupMin, 0, 0, []int{text, num}, []int{text, num}},
		{api.GroupMin, 2, -9, []int{text, num}, []int{text, num}},
		{api.GroupMin, 16, 0, make([]int, 16), make([]int, 16)},
		{api.GroupMin, 0, 0, nil, nil},
		{api.GroupMax, 1, 0, []int{num, text}, []int{num, text}},
		{api.GroupMax, 2, 9999, []int{num, text}, []int{num, text}},
		{api.GroupMax, 16, 0, make([]int, 16), make([]int, 16)},
		{api.GroupTop, 1, 1, []int{num, text}, []int{num, text}},
		{api.GroupTop, 0, 1000, []int{text, text}, []int{text, text}},
		{api.GroupTop, 16, 500, make([]int, 16), make([]int, 16)},
		{api.GroupTop, 0, 1, nil, nil},
		{api.GroupMin, 1, 0, []int{9, -3, low, high}, []int{9, -3, low, high}}, // whatever the kinds are
		{api.GroupCount, 2, 0, []int{9, -3, low}, []int{9, -3, num}},
	} {
		if got, e := group.Check(k.kind, k.key, k.n, k.kinds); !slices.Equal(got, k.want) || e != api.OK {
			t.Errorf("Check(%s, %d, %d, %v) = %v, %d, want %v", kindName(k.kind), k.key, k.n, k.kinds, got, e, k.want)
		}
	}
}

func TestCheckRefuses(t *testing.T) { // P15.1: told by hand
	const num, text = api.KindInt, api.KindStr
	full := make([]int, 16)
	texts := slices.Repeat([]int{text}, 16)
	for _, k := range []struct {
		kind, key, n int
		kinds        []int
		want         api.Errno
	}{
		{-1, 0, 0, []int{num}, api.ErrKind},
		{6, 0, 0, []int{num}, api.ErrKind},
		{api.GroupCount, -1, 0, []int{num}, api.ErrRange},
		{api.GroupCount, 2, 0, []int{num}, api.ErrRange},
		{api.GroupCount, 1, 0, nil, api.ErrRange},
		{api.GroupCount, low, 0, []int{num}, api.ErrRange},
		{api.GroupCount, high, 0, []int{num}, api.ErrRange},
		{api.GroupCount, 2, 0, []int{num, num}[:1], api.ErrRange}, // what lies in the spare room is no column
		{api.GroupCount, 16, 0, full, api.ErrMany},
		{api.GroupCount, 16, 0, make([]int, 20), api.ErrMany},
		{api.GroupCount, 17, 0, full, api.ErrRange},
		{api.GroupSum, -1, 0, []int{num}, api.ErrRange},
		{api.GroupSum, 2, 0, []int{num}, api.ErrRange},
		{api.GroupSum, 0, -1, []int{num}, api.ErrRange},
		{api.GroupSum, 0, 1, []int{num}, api.ErrRange},
		{api.GroupSum, 0, 1, []int{num, num}[:1], api.ErrRange},
		{api.GroupSum, 0, low, []int{num}, api.ErrRange},
		{api.GroupSum, 0, high, []int{num}, api.ErrRange},
		{api.GroupSum, 0, 0, nil, api.ErrRange},
		{api.GroupSum, 0, 0, []int{text}, api.ErrType},
		{api.GroupSum, 1, 1, []int{num, text, num}, api.ErrType},
		{api.GroupSum, 1, 0, []int{2}, api.ErrType},
		{api.GroupSum, 1, 0, []int{-1}, api.ErrType},
		{api.GroupSum, 16, 0, full, api.ErrMany},
		{api.GroupMin, -1, 0, []int{num}, api.ErrRange},
		{api.GroupMin, 2, 0, []int{num}, api.ErrRange},
		{api.GroupMax, -1, 0, []int{num}, api.ErrRange},
		{api.GroupMax, 2, 0, []int{num}, api.ErrRange},
		{api.GroupTop, -1, 1, []int{num}, api.ErrRange},
		{api.GroupTop, 2, 1, []int{num}, api.ErrRange},
		{api.GroupTop, 0, 0, []int{num}, api.ErrArg},
		{api.GroupTop, 0, -1, []int{num}, api.ErrArg},
		{api.GroupTop, 0, 1001, []int{num}, api.ErrArg},
		{api.GroupTop, 0, low, []int{num}, api.ErrArg},
		{api.GroupTop, 0, high, []int{num}, api.ErrArg},
		{api.GroupTop, 16, 0, full, api.ErrArg},

		// Of two faults the one that the chapter names first.
		{6, -1, -1, nil, api.ErrKind},
		{-1, 5, 0, []int{num}, api.ErrKind},
		{6, 16, 0, full, api.ErrKind},
		{api.GroupSum, -1, 0, []int{text}, api.ErrRange},
		{api.GroupSum, 2, 0, []int{text}, api.ErrRange},
		{api.GroupSum, 17, 16, texts, api.ErrRange},
		{api.GroupSum, 16, 16, full, api.ErrRange},
		{api.GroupSum, 16, -1, full, api.ErrRange},
		{api.GroupSum, 16, 3, texts, api.ErrType},
		{api.GroupTop, -1, 0, []int{num}, api.ErrRange},
		{api.GroupTop, 2, 1001, []int{num}, api.ErrRange},
		{api.GroupTop, 1, 0, nil, api.ErrRange},
	} {
		if got, e := group.Check(k.kind, k.key, k.n, k.kinds); len(got) != 0 || e != k.want {
			t.Errorf("Check(%s, %d, %d, %v) = %v, %d, want error %d", kindName(k.kind), k.key, k.n, k.kinds, got, e, k.want)
		}
	}
}

func TestCheckEach(t *testing.T) { // P15.1: each kind, with keys, columns and kinds of all lengths
	asked := []int{low, -2, -1, 0, 1, 2, 3, 7, 14, 15, 16, 17, 999, 1000, 1001, high}
	for _, kind := range append(allKinds(), badKinds()...) {
		for size := range api.MaxCols + 1 {
			kinds := make([]int, size)
			for i := range kinds {
				kinds[i] = i % 2
			}
			for _, other := range [][]int{kinds, make([]int, size), slices.Repeat([]int{api.KindStr}, size)} {
				for _, key := range append(asked, size-1, size, size+1) {
					for _, many := range append(asked, size-1, size, size+1) {
						holdCheck(t, kind, key, many, other)
					}
				}
			}
		}
	}
}

// pageList is the list of the page's example.
func pageList() []api.Count {
	return []api.Count{c(2, n(1), n(5)), c(1, n(1), n(7)), c(-1, n(2), n(9))}
}

func TestThePage(t *testing.T) { // P15.2: the page's example, by each kind
	for _, k := range []struct {
		kind, n int
		want    []api.Count
	}{
		{api.GroupDistinct, 0, []api.Count{c(1, n(1), n(5)), c(1, n(1), n(7))}},
		{api.GroupCount, 0, []api.Count{c(1, n(1), n(3)), c(1, n(2), n(-1))}},
		{api.GroupSum, 1, []api.Count{c(1, n(1), n(17)), c(1, n(2), n(-9))}},
		{api.GroupSum, 0, []api.Count{c(1, n(1), n(3)), c(1, n(2), n(-2))}},
		{api.GroupMin, 0, []api.Count{c(1, n(1), n(5))}},
		{api.GroupMax, 0, []api.Count{c(1, n(1), n(7))}},
		{api.GroupTop, 1, []api.Count{c(1, n(1), n(5))}},
		{api.GroupTop, 2, []api.Count{c(2, n(1), n(5))}},
		{api.GroupTop, 3, []api.Count{c(2, n(1), n(5)), c(1, n(1), n(7))}},
		{api.GroupTop, 4, []api.Count{c(2, n(1), n(5)), c(1, n(1), n(7))}},
		{api.GroupTop, 1000, []api.Count{c(2, n(1), n(5)), c(1, n(1), n(7))}},
	} {
		for l := range orders(pageList()) {
			if got, e := group.Make(k.kind, 1, k.n, l); !sameCounts(got, k.want) || e != api.OK {
				t.Errorf("Make(%s, 1, %d, %v) = %v, %d, want %v", kindName(k.kind), k.n, l, got, e, k.want)
			}
		}
	}
}

// orders are all ways in which a list may stand.
func orders(l []api.Count) func(yield func([]api.Count) bool) {
	return func(yield func([]api.Count) bool) { placed(nil, l, yield) }
}

// placed goes through the ways in which a list may stand behind a beginning, and tells whether it may go on.
func placed(first, others []api.Count, yield func([]api.Count) bool) bool {
	if len(others) == 0 {
		return yield(first)
	}
	for i, x := range others {
		left := slices.Delete(slices.Clone(others), i, i+1)
		if !placed(append(slices.Clone(first), x), left, yield) {
			return false
		}
	}
	return true
}

func TestMake(t *testing.T) { // P15.2: told by hand
	for _, k := range []struct {
		name         string
		kind, key, n int
		l            []api.Count
		want         []api.Count
	}{
		{"each row once", api.GroupDistinct, 0, 0, []api.Count{c(3, n(1)), c(1, n(2)), c(-1, n(3)), c(0, n(4))}, []api.Count{c(1, n(1)), c(1, n(2))}},
		{"in the order of rows", api.GroupDistinct, 1, 0, []api.Count{c(1, s("b")), c(1, s("a"), n(1)), c(1, n(9)), c(1, s("a"))}, []api.Count{c(1, n(9)), c(1, s("a")), c(1, s("a"), n(1)), c(1, s("b"))}},
		{"a row that came and went", api.GroupDistinct, 0, 0, []api.Count{c(1, n(1)), c(2, n(2)), c(-1, n(1))}, []api.Count{c(1, n(2))}},
		{"a row that comes to more than 0", api.GroupDistinct, 0, 0, []api.Count{c(-1, n(1)), c(2, n(1))}, []api.Count{c(1, n(1))}},
		{"a row that comes to less than 0", api.GroupDistinct, 0, 0, []api.Count{c(1, n(1)), c(-2, n(1))}, nil},
		{"the row of no values", api.GroupDistinct, 0, 0, []api.Count{c(5)}, []api.Count{c(1)}},
		{"whatever the key and n are", api.GroupDistinct, -1, low, []api.Count{c(5, n(1)), c(5, n(1), n(2))}, []api.Count{c(1, n(1)), c(1, n(1), n(2))}},
		{"a key that no row has", api.GroupDistinct, 99, 0, []api.Count{c(5, n(1)), c(5)}, []api.Count{c(1), c(1, n(1))}},
		{"as often as may be", api.GroupDistinct, 0, 0, []api.Count{c(high, n(1)), c(low, n(2))}, []api.Count{c(1, n(1))}},

		{"how many", api.GroupCount, 1, 0, []api.Count{c(2, n(1), n(5)), c(3, n(1), n(7)), c(4, n(2), n(5))}, []api.Count{c(1, n(1), n(5)), c(1, n(2), n(4))}},
		{"fewer than none", api.GroupCount, 1, 0, []api.Count{c(2, n(1), n(5)), c(-3, n(1), n(7))}, []api.Count{c(1, n(1), n(-1))}},
		{"none together", api.GroupCount, 1, 0, []api.Count{c(2, n(1), n(5)), c(-2, n(1), n(7)), c(1, n(2), n(0))}, []api.Count{c(1, n(2), n(1))}},
		{"none but what is gone", api.GroupCount, 1, 0, []api.Count{c(2, n(1), n(5)), c(-2, n(1), n(5))}, nil},
		{"with the key of no value", api.GroupCount, 0, 0, []api.Count{c(2, n(1), n(5)), c(1, s("a")), c(4)}, []api.Count{c(1, n(7))}},
		{"with the whole row", api.GroupCount, 2, 0, []api.Count{c(2, n(1), s("b")), c(1, n(1), s("a")), c(-4, n(1), s("b"))}, []api.Count{c(1, n(1), s("a"), n(1)), c(1, n(1), s("b"), n(-2))}},
		{"rows of other lengths", api.GroupCount, 1, 0, []api.Count{c(2, s("a")), c(3, s("a"), n(1)), c(5, s("a"), s("")), c(7, s("ab"))}, []api.Count{c(1, s("a"), n(10)), c(1, s("ab"), n(7))}},
		{"whatever n is", api.GroupCount, 1, low, []api.Count{c(2, s("a"))}, []api.Count{c(1, s("a"), n(2))}},
		{"a number is no text", api.GroupCount, 1, 0, []api.Count{c(2, s("")), c(3, n(0))}, []api.Count{c(1, n(0), n(3)), c(1, s(""), n(2))}},

		{"the sum", api.GroupSum, 1, 1, []api.Count{c(2, s("a"), n(5)), c(1, s("a"), n(-7)), c(3, s("b"), n(4))}, []api.Count{c(1, s("a"), n(3)), c(1, s("b"), n(12))}},
		{"a sum of 0", api.GroupSum, 1, 1, []api.Count{c(2, s("a"), n(5)), c(1, s("a"), n(-10))}, []api.Count{c(1, s("a"), n(0))}},
		{"of zeros", api.GroupSum, 1, 1, []api.Count{c(2, s("a"), n(0))}, []api.Count{c(1, s("a"), n(0))}},
		{"a sum where none are left", api.GroupSum, 1, 1, []api.Count{c(2, s("a"), n(5)), c(-2, s("a"), n(7))}, []api.Count{c(1, s("a"), n(-4))}},
		{"a sum of what is gone", api.GroupSum, 1, 1, []api.Count{c(2, s("a"), n(5)), c(-2, s("a"), n(5))}, nil},
		{"what is gone is not asked", api.GroupSum, 0, 1, []api.Count{c(2, n(1)), c(3, n(1), n(4)), c(1, n(2), s("a")), c(-2, n(1)), c(-1, n(2), s("a"))}, []api.Count{c(1, n(12))}},
		{"fewer than none of a sum", api.GroupSum, 1, 1, []api.Count{c(-2, s("a"), n(5))}, []api.Count{c(1, s("a"), n(-10))}},
		{"of the first column", api.GroupSum, 0, 0, []api.Count{c(2, n(5), s("a")), c(1, n(6))}, []api.Count{c(1, n(16))}},
		{"of the last column", api.GroupSum, 2, 2, []api.Count{c(2, n(5), s("a"), n(7)), c(1, n(5), s("a"), n(8))}, []api.Count{c(1, n(5), s("a"), n(22))}},
		{"of a column of the key", api.GroupSum, 2, 0, []api.Count{c(2, n(5), s("a"), n(7)), c(1, n(5), s("a"), s("x"))}, []api.Count{c(1, n(5), s("a"), n(15))}},
		{"of the whole row", api.GroupSum, 1, 0, []api.Count{c(2, n(5)), c(1, n(5)), c(3, n(6))}, []api.Count{c(1, n(5), n(15)), c(1, n(6), n(18))}},

		{"the first", api.GroupMin, 1, 0, []api.Count{c(1, n(1), n(7)), c(4, n(1), n(-5)), c(2, n(2), s("b")), c(1, n(2), s("a"))}, []api.Count{c(1, n(1), n(-5)), c(1, n(2), s("a"))}},
		{"the first that is there", api.GroupMin, 1, 0, []api.Count{c(-1, n(1), n(5)), c(2, n(1), n(6)), c(1, n(1), n(7))}, []api.Count{c(1, n(1), n(6))}},
		{"the first of none", api.GroupMin, 1, 0, []api.Count{c(-1, n(1), n(5)), c(-2, n(1), n(6)), c(1, n(2))}, []api.Count{c(1, n(2))}},
		{"the first of all", api.GroupMin, 0, 0, []api.Count{c(1, s("a")), c(1, n(3)), c(2, n(3), n(1))}, []api.Count{c(1, n(3))}},
		{"the first of each row", api.GroupMin, 1, 0, []api.Count{c(3, s("a")), c(2, n(3)), c(-2, n(4))}, []api.Count{c(1, n(3)), c(1, s("a"))}},

		{"the last", api.GroupMax, 1, 0, []api.Count{c(1, n(1), n(7)), c(4, n(1), n(-5)), c(2, n(2), s("b")), c(1, n(2), s("a"))}, []api.Count{c(1, n(1), n(7)), c(1, n(2), s("b"))}},
		{"the last that is there", api.GroupMax, 1, 0, []api.Count{c(-1, n(1), n(7)), c(2, n(1), n(6)), c(1, n(1), n(5))}, []api.Count{c(1, n(1), n(6))}},
		{"the last of none", api.GroupMax, 1, 0, []api.Count{c(-1, n(1), n(5)), c(-2, n(1), n(6)), c(1, n(2))}, []api.Count{c(1, n(2))}},
		{"the last of all", api.GroupMax, 0, 0, []api.Count{c(1, s("a")), c(1, n(3)), c(2, s("a"), n(1))}, []api.Count{c(1, s("a"), n(1))}},
		{"the last of many", api.GroupMax, 1, 0, []api.Count{c(high, n(1), n(7))}, []api.Count{c(1, n(1), n(7))}},

		{"the first two", api.GroupTop, 1, 2, []api.Count{c(1, n(1), n(7)), c(1, n(1), n(5)), c(1, n(1), n(6))}, []api.Count{c(1, n(1), n(5)), c(1, n(1), n(6))}},
		{"more of one than are asked for", api.GroupTop, 1, 2, []api.Count{c(5, n(1), n(7)), c(1, n(1), n(8))}, []api.Count{c(2, n(1), n(7))}},
		{"one that is cut short", api.GroupTop, 1, 4, []api.Count{c(3, n(1), n(7)), c(2, n(1), n(8)), c(1, n(1), n(9))}, []api.Count{c(3, n(1), n(7)), c(1, n(1), n(8))}},
		{"just as many", api.GroupTop, 1, 5, []api.Count{c(3, n(1), n(7)), c(2, n(1), n(8)), c(1, n(1), n(9))}, []api.Count{c(3, n(1), n(7)), c(2, n(1), n(8))}},
		{"more than there are", api.GroupTop, 1, 9, []api.Count{c(3, n(1), n(7)), c(2, n(1), n(8))}, []api.Count{c(3, n(1), n(7)), c(2, n(1), n(8))}},
		{"of each key by itself", api.GroupTop, 1, 2, []api.Count{c(3, n(1), n(7)), c(1, n(2), n(8)), c(3, n(2), n(9)), c(1, n(3))}, []api.Count{c(2, n(1), n(7)), c(1, n(2), n(8)), c(1, n(2), n(9)), c(1, n(3))}},
		{"those below 0 do not count", api.GroupTop, 1, 2, []api.Count{c(-9, n(1), n(5)), c(1, n(1), n(6)), c(-1, n(1), n(7)), c(1, n(1), n(8)), c(1, n(1), n(9))}, []api.Count{c(1, n(1), n(6)), c(1, n(1), n(8))}},
		{"all below 0", api.GroupTop, 1, 2, []api.Count{c(-9, n(1), n(5)), c(-1, n(1), n(6))}, nil},
		{"the greatest Diff", api.GroupTop, 0, 1000, []api.Count{c(1, n(1)), c(high, n(2)), c(high, n(3))}, []api.Count{c(1, n(1)), c(999, n(2))}},
		{"the same row several times", api.GroupTop, 0, 3, []api.Count{c(1, n(1)), c(5, n(2)), c(1, n(1)), c(-1, n(2))}, []api.Count{c(2, n(1)), c(1, n(2))}},
	} {
		if got, e := group.Make(k.kind, k.key, k.n, k.l); !sameCounts(got, k.want) || e != api.OK {
			t.Errorf("%s: Make(%s, %d, %d, %v) = %v, %d, want %v", k.name, kindName(k.kind), k.key, k.n, k.l, got, e, k.want)
		}
	}
}

func TestMakeOfNothing(t *testing.T) { // P15.2: an empty, a nil list, and such as come to nothing
	for _, kind := range allKinds() {
		for _, key := range []int{0, 1, 16, 99, high} {
			for _, l := range [][]api.Count{nil, {}, pageList()[:0]} {
				// No row is there that could have no column n.
				if got, e := group.Make(kind, key, 1, l); len(got) != 0 || e != api.OK {
					t.Errorf("Make(%s, %d, 1, %v) = %v, %d", kindName(kind), key, l, got, e)
				}
			}
		}
		for _, l := range [][]api.Count{{c(0, s("a"))}, {c(1, s("a")), c(-1, s("a"))}, {c(0)}, {c(high), c(-high)}} {
			for _, many := range []int{1, 2} {
				if got, e := group.Make(kind, 0, many, l); len(got) != 0 || e != api.OK {
					t.Errorf("Make(%s, 0, %d, %v) = %v, %d", kindName(kind), many, l, got, e)
				}
			}
		}
	}
}

// chance tells numbers that follow from one alone: the same ones whenever it is made.
type chance uint64

func (x *chance) below(bound int) int {
	*x = *x*6364136223846793005 + 1442695040888963407
	return int(uint64(*x)>>33) % bound
}

// anyRow is a row of few values, so that often some are alike.
func (x *chance) anyRow(least, most int) api.Row {
	r := make(api.Row, least+x.below(most-least+1))
	for i := range r {
		if r[i] = n(x.below(3) - 1); x.below(3) == 0 {
			r[i] = s([]string{"", "a", "b"}[x.below(3)])
		}
	}
	return r
}

// numberRow is such a row whose last value is a number.
func (x *chance) numberRow(size int) api.Row {
	r := x.anyRow(size, size)
	r[size-1] = n(x.below(9) - 4)
	return r
}

func TestMakeEach(t *testing.T) { // P15.2: of lists of all sorts, each kind against what comes of each key by itself
	x := chance(15)
	for range 1500 {
		least := x.below(4)
		l := make([]api.Count, x.below(14))
		for i := range l {
			l[i] = api.Count{Row: x.anyRow(least, least+x.below(3)), Diff: x.below(9) - 4}
		}
		for _, kind := range allKinds() {
			for key := -1; key <= least+2; key++ {
				for _, many := range []int{-1, 0, 1, 2, 3, 7} {
					holdMake(t, kind, key, many, l)
				}
			}
		}
	}
}

func TestSumEach(t *testing.T) { // P15.2: of rows that all have a number there
	x := chance(151)
	for range 3000 {
		size := 1 + x.below(4)
		l := make([]api.Count, x.below(14))
		for i := range l {
			l[i] = api.Count{Row: x.numberRow(size), Diff: x.below(9) - 4}
		}
		for key := range size + 1 {
			if _, e := group.Make(api.GroupSum, key, size-1, l); e != api.OK {
				t.Fatalf("Make(GroupSum, %d, %d, %v): error %d", key, size-1, l, e)
			}
			holdMake(t, api.GroupSum, key, size-1, l)
		}
	}
}

func TestMakeAtTheEdges(t *testing.T) { // P15.2: numbers that come to the greatest and the least there are, and beyond
	x := chance(1515)
	edges := []int{low, low + 1, -high / 2, low / 2, -3, -2, -1, 0, 1, 2, 3, high / 3, high / 2, high/2 + 1, high - 1, high}
	told := 0
	for range 20000 {
		l := make([]api.Count, 1+x.below(5))
		for i := range l {
			l[i] = c(edges[x.below(len(edges))], n(x.below(2)), n(edges[x.below(len(edges))]))
		}
		for _, kind := range allKinds() {
			holdMake(t, kind, 1, 1, l)
			if got, _ := group.Make(kind, 1, 1, l); len(got) > 0 && (kind == api.GroupSum || kind == api.GroupCount) {
				told++
			}
		}
	}
	if told < 1000 {
		t.Errorf("only %d of the lists have a sum", told)
	}
}

func TestJustNotTooGreat(t *testing.T) { // P15.2: told by hand
	for _, k := range []struct {
		kind int
		l    []api.Count
		want int
		e    api.Errno
	}{
		{api.GroupCount, []api.Count{c(high-1, n(1)), c(1, n(2))}, high, api.OK},
		{api.GroupCount, []api.Count{c(high, n(1)), c(1, n(2))}, 0, api.ErrOver},
		{api.GroupCount, []api.Count{c(low+1, n(1)), c(-1, n(2))}, low, api.OK},
		{api.GroupCount, []api.Count{c(low, n(1)), c(-1, n(2))}, 0, api.ErrOver},
		{api.GroupCount, []api.Count{c(high, n(1)), c(1, n(2)), c(-1, n(3))}, 0, api.ErrOver}, // a later one would bring it back
		{api.GroupCount, []api.Count{c(-1, n(3)), c(1, n(2)), c(high, n(1))}, 0, api.ErrOver}, // not as they stand, but in the order of rows
		{api.GroupCount, []api.Count{c(high, n(1)), c(-1, n(2)), c(1, n(3))}, high, api.OK},
		{api.GroupCount, []api.Count{c(1, n(3)), c(high, n(1)), c(-1, n(2))}, high, api.OK},
		{api.GroupCount, []api.Count{c(low, n(1)), c(high, n(2))}, -1, api.OK},
		{api.GroupCount, []api.Count{c(low, n(1)), c(high, n(2)), c(high, n(3))}, high - 1, api.OK},
		{api.GroupCount, []api.Count{c(high, n(1)), c(high, n(2)), c(low, n(3))}, 0, api.ErrOver},
		{api.GroupSum, []api.Count{c(1, n(high))}, high, api.OK},
		{api.GroupSum, []api.Count{c(-1, n(high))}, -high, api.OK},
		{api.GroupSum, []api.Count{c(1, n(low))}, low, api.OK},
		{api.GroupSum, []api.Count{c(-1, n(low))}, 0, api.ErrOver},
		{api.GroupSum, []api.Count{c(low, n(-1))}, 0, api.ErrOver},
		{api.GroupSum, []api.Count{c(low, n(1))}, low, api.OK},
		{api.GroupSum, []api.Count{c(2, n(high/2))}, high - 1, api.OK},
		{api.GroupSum, []api.Count{c(2, n(high/2+1))}, 0, api.ErrOver},
		{api.GroupSum, []api.Count{c(2, n(low/2))}, low, api.OK},
		{api.GroupSum, []api.Count{c(2, n(low/2-1))}, 0, api.ErrOver},
		{api.GroupSum, []api.Count{c(-2, n(1<<62))}, low, api.OK},
		{api.GroupSum, []api.Count{c(1<<32, n(1<<31))}, 0, api.ErrOver},
		{api.GroupSum, []api.Count{c(1<<32, n(-1<<31))}, low, api.OK},
		{api.GroupSum, []api.Count{c(high, n(0)), c(high, n(1))}, high, api.OK},
		{api.GroupSum, []api.Count{c(1, n(1)), c(1, n(high-1))}, high, api.OK},
		{api.GroupSum, []api.Count{c(1, n(1)), c(1, n(high))}, 0, api.ErrOver},
		{api.GroupSum, []api.Count{c(1, n(-1)), c(1, n(1)), c(1, n(high))}, high, api.OK},
		{api.GroupSum, []api.Count{c(1, n(high)), c(1, n(1)), c(1, n(-1))}, high, api.OK}, // in the order of rows
		{api.GroupSum, []api.Count{c(-1, n(1)), c(1, n(2)), c(1, n(high-1)), c(-1, n(high))}, 0, api.OK},
		{api.GroupSum, []api.Count{c(1, n(2)), c(1, n(high-1)), c(-1, n(high))}, 0, api.ErrOver}, // a later one would bring it back
		{api.GroupSum, []api.Count{c(2, n(-high)), c(2, n(high))}, 0, api.ErrOver},               // a product that another one would bring back
	} {
		got, e := group.Make(k.kind, 0, 0, k.l)
		var want []api.Count
		if k.e == api.OK && (k.want != 0 || k.kind == api.GroupSum) {
			want = []api.Count{c(1, n(k.want))}
		}
		if !sameCounts(got, want) || e != k.e {
			t.Errorf("Make(%s, 0, 0, %v) = %v, %d, want %v, %d", kindName(k.kind), k.l, got, e, want, k.e)
		}
	}
}

// faulty is a call of Make, and the error that it must tell.
type faulty struct {
	name         string
	kind, key, n int
	l            []api.Count
	want         api.Errno
}

// sumFaults are those of rows in a sum, in which key by key, and row by row, is asked.
func sumFaults() []faulty {
	const sum = api.GroupSum
	ones := []api.Count{c(1, n(1), n(1)), c(1, n(2), n(2))}
	tooGreat := []api.Count{c(1, n(1), n(high)), c(1, n(1), n(high-1))}
	return []faulty{
		{"a column of -1", sum, 1, -1, ones, api.ErrRange},
		{"the least column", sum, 1, low, ones, api.ErrRange},
		{"just as many as there are", sum, 1, 2, ones, api.ErrRange},
		{"the greatest column", sum, 1, high, ones, api.ErrRange},
		{"a column of the spare room", sum, 0, 1, []api.Count{c(1, n(1), n(2)), {Row: append(api.Row{n(3)}, n(4))[:1], Diff: 1}}, api.ErrRange},
		{"a column of a row of no values", sum, 0, 0, []api.Count{c(1)}, api.ErrRange},
		{"one row that is too short", sum, 1, 1, append(slices.Clone(ones), c(1, n(1))), api.ErrRange},
		{"one below 0 that is too short", sum, 1, 1, append(slices.Clone(ones), c(-1, n(1))), api.ErrRange},
		{"a text", sum, 1, 1, []api.Count{c(1, n(1), s("7"))}, api.ErrType},
		{"a text in the key", sum, 1, 0, []api.Count{c(1, s("a"), n(1))}, api.ErrType},
		{"one text among numbers", sum, 1, 1, append(slices.Clone(ones), c(1, n(2), s(""))), api.ErrType},
		{"a text below 0", sum, 1, 1, append(slices.Clone(ones), c(-1, n(2), s(""))), api.ErrType},
		{"a kind of neither", sum, 0, 0, []api.Count{c(1, api.Val{Kind: 2})}, api.ErrType},
		{"a kind below 0", sum, 0, 0, []api.Count{c(1, api.Val{Kind: -1, Int: 5})}, api.ErrType},
		{"a text with a number", sum, 0, 0, []api.Count{c(1, api.Val{Kind: api.KindStr, Int: 5})}, api.ErrType},

		// Of the first row that has one.
		{"a short row, then a text", sum, 1, 1, []api.Count{c(1, n(1), s("a")), c(1, n(1))}, api.ErrRange},
		{"a text, then a short row", sum, 0, 1, []api.Count{c(1, n(2)), c(1, n(1), s("a"))}, api.ErrType},
		{"a number, a text, then a short row", sum, 0, 1, []api.Count{c(1, n(3)), c(1, n(1), n(4)), c(1, n(2), s("a"))}, api.ErrType},
		{"a number, a short row, then a text", sum, 0, 1, []api.Count{c(1, n(1), n(4)), c(1, n(3), s("a")), c(1, n(2))}, api.ErrRange},
		// Of the rows with a key these come ahead of a sum that is too great.
		{"too great, then a text", sum, 1, 1, append(slices.Clone(tooGreat), c(1, n(1), s("a"))), api.ErrType},
		{"too great, then a short row", sum, 0, 1, append(slices.Clone(tooGreat), c(1, n(2))), api.ErrRange},
		{"a short row, then too great", sum, 1, 1, append(slices.Clone(tooGreat), c(1, n(1))), api.ErrRange},
		// Of two keys that of the first one.
		{"a key too great, then one of texts", sum, 1, 1, append(slices.Clone(tooGreat), c(1, n(2), s("a"))), api.ErrOver},
		{"a key too great, then one too short", sum, 1, 1, append(slices.Clone(tooGreat), c(1, n(2))), api.ErrOver},
		{"a key of texts, then one too great", sum, 1, 1, append(slices.Clone(tooGreat), c(1, n(0), s("a"))), api.ErrType},
		{"a key too short, then one too great", sum, 1, 1, append(slices.Clone(tooGreat), c(1, n(0))), api.ErrRange},
		{"a key of texts, then one too short", sum, 1, 1, []api.Count{c(1, n(2)), c(1, n(1), s("a"))}, api.ErrType},
		{"a key too short, then one of texts", sum, 1, 1, []api.Count{c(1, n(2), s("a")), c(1, n(1))}, api.ErrRange},
		{"a key that is well, then one of texts", sum, 1, 1, append(slices.Clone(ones), c(1, n(3), s("a"))), api.ErrType},
	}
}

// makeFaults are those that are asked ahead of sums, and of sums that are too great.
func makeFaults() []faulty {
	over := []api.Count{c(high, n(1), n(2)), c(1, n(1), n(2))}
	overBack := append(slices.Clone(over), c(-1, n(1), n(2)))
	short := append(pageList(), c(1))
	var l []faulty
	for _, kind := range badKinds() {
		l = append(l, faulty{"no kind", kind, 1, 1, pageList(), api.ErrKind},
			faulty{"no kind, no row", kind, 0, 0, nil, api.ErrKind},
			faulty{"no kind, no key", kind, -1, 0, pageList(), api.ErrKind},
			faulty{"no kind, short rows", kind, 3, 0, pageList(), api.ErrKind},
			faulty{"no kind, too great", kind, 1, 0, over, api.ErrKind})
	}
	for _, kind := range allKinds()[1:] {
		for _, key := range []int{-1, -2, low} {
			l = append(l, faulty{"a key below 0", kind, key, 1, pageList(), api.ErrRange},
				faulty{"a key below 0, no row", kind, key, 1, nil, api.ErrRange},
				faulty{"a key below 0, too great", kind, key, 1, over, api.ErrRange},
				faulty{"a key below 0, n below 0", kind, key, -1, pageList(), api.ErrRange})
		}
		l = append(l, faulty{"a key longer than rows", kind, 3, 1, pageList(), api.ErrRange},
			faulty{"the longest key", kind, high, 1, pageList(), api.ErrRange},
			faulty{"one row is short", kind, 1, 1, short, api.ErrRange},
			faulty{"one row is short that is gone", kind, 1, 1, append(slices.Clone(short), c(-1)), api.ErrRange},
			faulty{"one row is short that never was", kind, 1, 1, append(pageList(), c(0)), api.ErrRange},
			faulty{"the first row is short", kind, 2, 1, append([]api.Count{c(1, n(9))}, pageList()...), api.ErrRange},
			faulty{"a key in the spare room", kind, 2, 1, []api.Count{{Row: append(api.Row{n(3)}, n(4))[:1], Diff: 1}}, api.ErrRange},
			faulty{"short rows, n below 0", kind, 3, -1, pageList(), api.ErrRange},
			faulty{"short rows, too great", kind, 3, 1, over, api.ErrRange})
	}
	for _, kind := range allKinds() {
		l = append(l, faulty{"a row too often", kind, 1, 1, over, api.ErrOver},
			faulty{"a row too often, on its way", kind, 1, 1, overBack, api.ErrOver},
			faulty{"a row too seldom", kind, 1, 1, []api.Count{c(low, n(1), n(2)), c(-1, n(1), n(2))}, api.ErrOver},
			faulty{"a later row too often", kind, 1, 1, append(pageList(), over...), api.ErrOver})
	}
	for _, many := range []int{0, -1, 1001, low, high} {
		l = append(l, faulty{"so many may not be", api.GroupTop, 1, many, pageList(), api.ErrArg},
			faulty{"so many may not be, no row", api.GroupTop, 1, many, nil, api.ErrArg},
			faulty{"so many may not be, too great", api.GroupTop, 1, many, over, api.ErrArg},
			faulty{"so many may not be, short rows", api.GroupTop, 3, many, pageList(), api.ErrRange})
	}
	return append(l,
		faulty{"a row too often, no column", api.GroupSum, 1, 2, over, api.ErrOver},
		faulty{"a row too often, behind a text", api.GroupSum, 1, 1, append([]api.Count{c(1, n(0), s("a"))}, over...), api.ErrOver},
		faulty{"too many of the second key", api.GroupCount, 1, 0, []api.Count{c(1, n(1)), c(high, n(2), n(1)), c(1, n(2), n(2))}, api.ErrOver})
}

func TestMakeRefuses(t *testing.T) { // P15.2
	for _, k := range append(makeFaults(), sumFaults()...) {
		if got, e := group.Make(k.kind, k.key, k.n, k.l); len(got) != 0 || e != k.want {
			t.Errorf("%s: Make(%s, %d, %d, %v) = %v, %d, want error %d", k.name, kindName(k.kind), k.key, k.n, k.l, got, e, k.want)
		}
	}
}

func TestTheLastColumn(t *testing.T) { // P15.2: of rows of all lengths, longer ones than there may be among them
	for size := range 40 {
		r := make(api.Row, size)
		for i := range r {
			r[i] = n(i)
		}
		l := []api.Count{{Row: r, Diff: 3}}
		if got, e := group.Make(api.GroupSum, 0, size, l); len(got) != 0 || e != api.ErrRange {
			t.Errorf("the column %d of %d: %v, %d, want ErrRange", size, size, got, e)
		}
		if size == 0 {
			continue
		}
		if got, e := group.Make(api.GroupSum, 0, size-1, l); !sameCounts(got, []api.Count{c(1, n(3*size-3))}) || e != api.OK {
			t.Errorf("the column %d of %d: %v, %d", size-1, size, got, e)
		}
	}
}

func TestOnlyTopAsksHowMany(t *testing.T) { // P15.2: n plays no part but in GroupSum and GroupTop
	for _, kind := range []int{api.GroupDistinct, api.GroupCount, api.GroupMin, api.GroupMax} {
		for _, many := range []int{low, -1, 0, 1, 2, 1000, 1001, high} {
			holdMake(t, kind, 1, many, pageList())
			if _, e := group.Make(kind, 1, many, pageList()); e != api.OK {
				t.Errorf("Make(%s, 1, %d): error %d", kindName(kind), many, e)
			}
		}
	}
}

func TestAsManyAsMayBe(t *testing.T) { // P15.2: GroupTop with MaxTop, of fewer, of just as many, of more
	for _, rows := range []int{1, 999, 1000, 1001, 1500} {
		var l, want []api.Count
		for i := rows - 1; i >= 0; i-- {
			l = append(l, c(1, s("a"), n(i)))
		}
		for i := range min(rows, api.MaxTop) {
			want = append(want, c(1, s("a"), n(i)))
		}
		if got, e := group.Make(api.GroupTop, 1, api.MaxTop, l); !sameCounts(got, want) || e != api.OK {
			t.Errorf("of %d rows the first %d: %d, error %d", rows, api.MaxTop, len(got), e)
		}
	}
	l := []api.Count{c(400, n(1)), c(400, n(2)), c(400, n(3))}
	want := []api.Count{c(400, n(1)), c(400, n(2)), c(200, n(3))}
	if got, e := group.Make(api.GroupTop, 0, api.MaxTop, l); !sameCounts(got, want) || e != api.OK {
		t.Errorf("of %v the first %d: %v, %d", l, api.MaxTop, got, e)
	}
}

func TestLongKeys(t *testing.T) { // P15.2: each key from none to all of a row of MaxCols values
	first := make(api.Row, api.MaxCols)
	for i := range first {
		if first[i] = n(i); i%3 == 1 {
			first[i] = s("text")
		}
	}
	// Each of them is as the first one but from one place on.
	var l []api.Count
	for at := range first {
		r := slices.Clone(first)
		r[at] = s("other")
		l = append(l, api.Count{Row: r, Diff: at + 1})
	}
	l = append(l, api.Count{Row: first, Diff: 100})
	for _, kind := range allKinds() {
		for key := range api.MaxCols + 1 {
			for _, many := range []int{1, 2, 150} {
				holdMake(t, kind, key, many, l)
			}
		}
	}
	got, e := group.Make(api.GroupCount, api.MaxCols, 0, l)
	if len(got) != len(l) || len(got[0].Row) != api.MaxCols+1 || e != api.OK {
		t.Errorf("Make with a key of MaxCols values: %v, %d", got, e)
	}
}

func TestManyKeys(t *testing.T) { // P15.2: far more keys than in the other lists, each with some rows
	var l, counts, sums, least, most, top []api.Count
	const keys = 3000
	for i := range keys {
		k := n((i*1777)%keys - keys/2) // each of them once
		l = append(l, c(2, k, n(8)), c(-1, k, n(9)), c(1, k, s("a")), c(-1, k, s("a")), c(1, k, n(7)))
		k = n(i - keys/2)
		counts = append(counts, c(1, k, n(2)))
		sums = append(sums, c(1, k, n(14)))
		least = append(least, c(1, k, n(7)))
		most = append(most, c(1, k, n(8)))
		top = append(top, c(1, k, n(7)), c(1, k, n(8)))
	}
	for _, k := range []struct {
		kind, n int
		want    []api.Count
	}{{api.GroupCount, 0, counts}, {api.GroupSum, 1, sums}, {api.GroupMin, 0, least}, {api.GroupMax, 0, most}, {api.GroupTop, 2, top}} {
		if got, e := group.Make(k.kind, 1, k.n, l); !sameCounts(got, k.want) || e != api.OK {
			t.Errorf("%s of %d keys: %d rows, error %d", kindName(k.kind), keys, len(got), e)
		}
	}
}

func TestRowsByTheirKindsAlone(t *testing.T) { // the rule of rows: the field that plays no part does not count
	noisy := func(x int, other string) api.Val { return api.Val{Kind: api.KindInt, Int: x, Str: other} }
	text := func(x string, other int) api.Val { return api.Val{Kind: api.KindStr, Str: x, Int: other} }
	l := []api.Count{c(1, text("a", 5), noisy(1, "x")), c(1, text("a", 3), noisy(2, "")), c(2, text("a", -5), noisy(1, "y")), c(1, text("b", 0), noisy(4, "z"))}
	for _, k := range []struct {
		kind, n int
		want    []api.Count
	}{
		{api.GroupDistinct, 0, []api.Count{c(1, s("a"), n(1)), c(1, s("a"), n(2)), c(1, s("b"), n(4))}},
		{api.GroupCount, 0, []api.Count{c(1, s("a"), n(4)), c(1, s("b"), n(1))}},
		{api.GroupSum, 1, []api.Count{c(1, s("a"), n(5)), c(1, s("b"), n(4))}},
		{api.GroupMin, 0, []api.Count{c(1, s("a"), n(1)), c(1, s("b"), n(4))}},
		{api.GroupMax, 0, []api.Count{c(1, s("a"), n(2)), c(1, s("b"), n(4))}},
		{api.GroupTop, 3, []api.Count{c(3, s("a"), n(1)), c(1, s("b"), n(4))}},
	} {
		if got, e := group.Make(k.kind, 1, k.n, l); !sameCounts(got, k.want) || e != api.OK {
			t.Errorf("Make(%s, 1, %d, %v) = %v, %d, want %v", kindName(k.kind), k.n, l, got, e, k.want)
		}
	}
	// Values of one other kind are alike, whatever is in them.
	odd := []api.Count{c(2, api.Val{Kind: 7, Int: 1}), c(3, api.Val{Kind: 7, Str: "a"}), c(1, api.Val{Kind: -7})}
	want := []api.Count{c(1, api.Val{Kind: -7}, n(1)), c(1, api.Val{Kind: 7}, n(5))}
	if got, e := group.Make(api.GroupCount, 1, 0, odd); !sameCounts(got, want) || e != api.OK {
		t.Errorf("Make(GroupCount, 1, 0, %v) = %v, %d, want %v", odd, got, e, want)
	}
}

func TestWhatIsCountedIsANumber(t *testing.T) { // P15.2: all of what is told behind a key
	for _, kind := range []int{api.GroupCount, api.GroupSum} {
		got, e := group.Make(kind, 1, 1, []api.Count{c(2, s("a"), n(3))})
		want := map[int]int{api.GroupCount: 2, api.GroupSum: 6}[kind]
		if len(got) != 1 || len(got[0].Row) != 2 || got[0].Row[0] != s("a") || got[0].Row[1] != n(want) || got[0].Diff != 1 || e != api.OK {
			t.Errorf("Make(%s) = %v, %d", kindName(kind), got, e)
		}
	}
}

func TestKey(t *testing.T) { // P15.2: told by hand
	r := api.Row{n(1), s("a"), n(3)}
	for _, k := range []struct {
		kind, key int
		want      api.Row
		e         api.Errno
	}{
		{api.GroupDistinct, 0, r, api.OK},
		{api.GroupDistinct, 1, r, api.OK},
		{api.GroupDistinct, -1, r, api.OK},
		{api.GroupDistinct, 4, r, api.OK},
		{api.GroupDistinct, low, r, api.OK},
		{api.GroupDistinct, high, r, api.OK},
		{api.GroupCount, 0, api.Row{}, api.OK},
		{api.GroupCount, 1, api.Row{n(1)}, api.OK},
		{api.GroupSum, 2, api.Row{n(1), s("a")}, api.OK},
		{api.GroupMin, 3, r, api.OK},
		{api.GroupMax, 1, api.Row{n(1)}, api.OK},
		{api.GroupTop, 2, api.Row{n(1), s("a")}, api.OK},
		{api.GroupCount, -1, nil, api.ErrRange},
		{api.GroupSum, 4, nil, api.ErrRange},
		{api.GroupMin, low, nil, api.ErrRange},
		{api.GroupMax, high, nil, api.ErrRange},
		{api.GroupTop, 4, nil, api.ErrRange},
		{-1, 1, api.Row{n(1)}, api.OK}, // whatever else the kind is: row.Cut's answer
		{6, 2, api.Row{n(1), s("a")}, api.OK},
		{6, 4, nil, api.ErrRange},
	} {
		if got, e := group.Key(k.kind, k.key, r); !row.Same(got, k.want) || e != k.e {
			t.Errorf("Key(%s, %d, %v) = %v, %d, want %v, %d", kindName(k.kind), k.key, r, got, e, k.want, k.e)
		}
	}
}

func TestKeyEach(t *testing.T) { // P15.2: against row.Cut, of rows of all lengths
	x := chance(3)
	for _, kind := range append(allKinds(), badKinds()...) {
		for size := range api.MaxCols + 3 {
			r := x.anyRow(size, size)
			for _, key := range []int{low, -1, 0, 1, 2, size - 1, size, size + 1, api.MaxCols, high} {
				holdKey(t, kind, key, r)
				if k, _, e := row.Cut(r, key); kind != api.GroupDistinct {
					if got, f := group.Key(kind, key, r); !row.Same(got, k) || f != e {
						t.Errorf("Key(%s, %d, %v) = %v, %d, and row.Cut %v, %d", kindName(kind), key, r, got, f, k, e)
					}
				}
			}
		}
		holdKey(t, kind, 0, nil)
		holdKey(t, kind, 1, nil)
		holdKey(t, kind, 0, api.Row{})
		// What lies in the spare room is no value of the row.
		holdKey(t, kind, 2, api.Row{n(1), n(2)}[:1])
	}
}

func TestKeyTellsWhatGoesTogether(t *testing.T) { // P15.2: what comes of the rows of each Key, together, is what comes of all
	x := chance(77)
	for range 500 {
		l := make([]api.Count, x.below(12))
		for i := range l {
			l[i] = api.Count{Row: x.numberRow(3), Diff: x.below(7) - 3}
		}
		for _, kind := range allKinds() {
			for key := range 4 {
				holdKeyByKey(t, kind, key, l)
			}
		}
	}
}

// holdKeyByKey holds what comes of a list against what comes of the parts of it that have one Key each.
func holdKeyByKey(t *testing.T, kind, key int, l []api.Count) {
	t.Helper()
	var keys []api.Row
	parts := map[string][]api.Count{}
	for _, x := range l {
		k, e := group.Key(kind, key, x.Row)
		if e != api.OK {
			t.Fatalf("Key(%s, %d, %v): error %d", kindName(kind), key, x.Row, e)
		}
		name := fmt.Sprint(k)
		if parts[name] == nil {
			keys = append(keys, k)
		}
		parts[name] = append(parts[name], x)
	}
	slices.SortFunc(keys, row.Order)
	var together []api.Count
	for _, k := range keys {
		of, e := group.Make(kind, key, 2, parts[fmt.Sprint(k)])
		if e != api.OK {
			t.Fatalf("Make(%s, %d, 2, %v): error %d", kindName(kind), key, parts[fmt.Sprint(k)], e)
		}
		together = append(together, of...)
	}
	if all, e := group.Make(kind, key, 2, l); !sameCounts(all, together) || e != api.OK {
		t.Errorf("Make(%s, %d, 2, %v) = %v, %d, but key by key %v", kindName(kind), key, l, all, e, together)
	}
}

func TestWhatFollows(t *testing.T) { // P15.3
	x := chance(4)
	for range 2000 {
		l := make([]api.Count, x.below(14))
		for i := range l {
			l[i] = api.Count{Row: x.anyRow(2, 3), Diff: x.below(9) - 4}
		}
		once, e := group.Make(api.GroupDistinct, 0, 0, l)
		if e != api.OK {
			t.Fatalf("distinct of %v: error %d", l, e)
		}
		if twice, e := group.Make(api.GroupDistinct, 0, 0, once); !sameCounts(once, twice) || e != api.OK {
			t.Errorf("distinct of %v: %v; of that: %v, %d", l, once, twice, e)
		}
		for key := range 3 {
			least, e := group.Make(api.GroupMin, key, 0, l)
			top, f := group.Make(api.GroupTop, key, 1, l)
			if !sameCounts(least, top) || e != api.OK || f != api.OK {
				t.Errorf("key %d of %v: the least %v, %d, the first one %v, %d", key, l, least, e, top, f)
			}
		}
	}
}

func TestTheOrderPlaysNoPart(t *testing.T) { // P15.2: where no sum of a row is too great
	l := []api.Count{c(2, s("a"), n(5)), c(1, s("b"), n(-3)), c(-1, s("a"), n(5)), c(3, s("a"), n(2)), c(-2, n(0), n(1)), c(-3, s("a"), n(2))}
	for _, kind := range allKinds() {
		want, wantErr := askedMake(kind, 1, 1, l)
		for other := range orders(l) {
			if got, e := group.Make(kind, 1, 1, other); !sameCounts(got, want) || e != wantErr {
				t.Fatalf("Make(%s, 1, 1, %v) = %v, %d, want %v, %d", kindName(kind), other, got, e, want, wantErr)
			}
		}
	}
}

func TestAnswersHaveTheKindsOfCheck(t *testing.T) { // P15.1, P15.2: each row that comes has the kinds that Check tells
	kinds := []int{api.KindStr, api.KindInt, api.KindStr, api.KindInt}
	x := chance(8)
	for range 300 {
		l := make([]api.Count, 1+x.below(12))
		for i := range l {
			r := api.Row{s([]string{"a", "b"}[x.below(2)]), n(x.below(3)), s("t"), n(x.below(5))}
			l[i] = api.Count{Row: r, Diff: x.below(5) - 1}
		}
		for _, kind := range allKinds() {
			for key := range 5 {
				want, e := group.Check(kind, key, 3, kinds)
				got, f := group.Make(kind, key, 3, l)
				if e != api.OK || f != api.OK {
					t.Fatalf("%s with the key %d: Check %d, Make %d", kindName(kind), key, e, f)
				}
				for _, y := range got {
					if !row.Fits(y.Row, want) {
						t.Errorf("Make(%s, %d, 3, %v): %v has not the kinds %v", kindName(kind), key, l, y.Row, want)
					}
				}
			}
		}
	}
}

// spare is what lies in the spare room of what is handed in.
func spare() api.Count { return c(99, s("the spare"), s("room")) }

// roomyRow is the row with spare room behind it, which is filled.
func roomyRow(r api.Row) api.Row {
	return append(slices.Clip(slices.Clone(r)), s("the spare"), s("room"), n(99))[:len(r)]
}

// roomy is the list with spare room behind it, which is filled, and so it is with each of its rows.
func roomy(l []api.Count) []api.Count {
	var given []api.Count
	for _, x := range l {
		given = append(given, api.Count{Row: roomyRow(x.Row), Diff: x.Diff})
	}
	return append(slices.Clip(given), spare(), spare())[:len(l)]
}

// whole is a copy of all that lies in a list and in its rows, spare room too.
func whole(l []api.Count) []api.Count {
	var all []api.Count
	for _, x := range l[:cap(l)] {
		all = append(all, api.Count{Row: slices.Clone(x.Row[:cap(x.Row)]), Diff: x.Diff})
	}
	return all
}

// isWhole: does all of it lie there as it was, to the last field?
func isWhole(l, before []api.Count) bool {
	return slices.EqualFunc(l[:cap(l)], before, func(x, y api.Count) bool {
		return slices.Equal(x.Row[:cap(x.Row)], y.Row) && x.Diff == y.Diff
	})
}

func spoilRow(r api.Row) {
	_ = append(r, s("spoilt"))
	for i := range r[:cap(r)] {
		r[:cap(r)][i] = s("spoilt")
	}
}

// spoil writes over a list and its rows, spare room too, and appends to them.
func spoil(l []api.Count) {
	_ = append(l, spare())
	for i := range l[:cap(l)] {
		spoilRow(l[:cap(l)][i].Row)
		l[:cap(l)][i] = c(-99, s("spoilt"))
	}
}

// manySorts is a list of which something comes by each kind, with several rows of a key, and a row that is gone.
func manySorts() []api.Count {
	return []api.Count{c(1, n(2), n(9), s("x")), c(2, n(1), n(5)), c(1, n(1), n(7)), c(3, n(1), n(6)), c(1, n(1), n(5)), c(-2, n(2), n(8)), c(1, s("a"), n(1)), c(1, n(3), n(0)), c(-1, n(3), n(0))}
}

func mustMake(t *testing.T, kind, many int, l []api.Count) []api.Count {
	t.Helper()
	got, e := group.Make(kind, 1, many, l)
	if len(got) < 3 || e != api.OK {
		t.Fatalf("Make(%s, 1, %d, %v) = %v, %d", kindName(kind), many, l, got, e)
	}
	return got
}

func howMany(kind int) int { return map[int]int{api.GroupSum: 1, api.GroupTop: 4}[kind] }

func TestWhatIsHandedInIsLeft(t *testing.T) { // the rule of memory
	for _, kind := range allKinds() {
		many := howMany(kind)
		want, _ := askedMake(kind, 1, many, manySorts())
		given := roomy(manySorts())
		before := whole(given)
		got := mustMake(t, kind, many, given)
		if !isWhole(given, before) {
			t.Errorf("%s: the list was changed, or its spare room: %v", kindName(kind), given[:cap(given)])
		}
		spoil(got)
		if !isWhole(given, before) {
			t.Errorf("%s: the answer lies where the list does: %v", kindName(kind), given[:cap(given)])
		}
		again := mustMake(t, kind, many, given)
		spoil(given)
		if !sameCounts(again, want) {
			t.Errorf("%s: the list was kept in the answer: %v", kindName(kind), again)
		}
	}
	for _, k := range append(makeFaults(), sumFaults()...) {
		given := roomy(k.l)
		before := whole(given)
		group.Make(k.kind, k.key, k.n, given)
		if !isWhole(given, before) {
			t.Errorf("%s: the list was changed", k.name)
		}
	}
}

func TestKindsAndRowsAreLeft(t *testing.T) { // the rule of memory: of Check and Key
	for _, kind := range allKinds() {
		for key := range 4 {
			kinds := append([]int{1, 0, 0}, 55, 66)[:3]
			want, _ := askedCheck(kind, key, 1, kinds)
			got, e := group.Check(kind, key, 1, kinds)
			for i := range got[:cap(got)] {
				got[:cap(got)][i] = -99
			}
			if !slices.Equal(kinds[:5], []int{1, 0, 0, 55, 66}) || e != api.OK {
				t.Errorf("Check(%s, %d) shares kinds, or changed them: %v, error %d", kindName(kind), key, kinds[:5], e)
			}
			got, _ = group.Check(kind, key, 1, kinds)
			for i := range kinds[:5] {
				kinds[:5][i] = -99
			}
			if !slices.Equal(got, want) {
				t.Errorf("Check(%s, %d) kept kinds: %v", kindName(kind), key, got)
			}

			plain := api.Row{n(1), s("a"), n(3)}
			r := roomyRow(plain)
			before := slices.Clone(r[:cap(r)])
			k, e := group.Key(kind, key, r)
			spoilRow(k)
			if !slices.Equal(r[:cap(r)], before) || e != api.OK {
				t.Errorf("Key(%s, %d) shares the row, or changed it: %v, error %d", kindName(kind), key, r[:cap(r)], e)
			}
			k, _ = group.Key(kind, key, r)
			spoilRow(r)
			if asked, _ := askedKey(kind, key, plain); !row.Same(k, asked) {
				t.Errorf("Key(%s, %d) kept the row: %v", kindName(kind), key, k)
			}
		}
	}
}

func TestRowsOfAnAnswerAreTheirOwn(t *testing.T) { // the rule of memory: one of them is spoilt, the others tell the same
	for _, kind := range allKinds() {
		many := howMany(kind)
		want, _ := askedMake(kind, 1, many, manySorts())
		for spoilt := range want {
			given := roomy(manySorts())
			got, other := mustMake(t, kind, many, given), mustMake(t, kind, many, given)
			spoilRow(got[spoilt].Row)
			if !sameCounts(other, want) {
				t.Errorf("%s: two answers share memory: %v", kindName(kind), other)
			}
			for i := range got {
				if i != spoilt && !row.Same(got[i].Row, want[i].Row) {
					t.Errorf("%s: the rows %d and %d of an answer share memory: %v", kindName(kind), i, spoilt, got[i].Row)
				}
			}
		}
	}
}

// places are where the values of answers lie, each of which may be told but once.
type places map[unsafe.Pointer]string

func takeAll[T any](t *testing.T, p places, name string, l []T) {
	t.Helper()
	for i := range l[:cap(l)] {
		place := unsafe.Pointer(&l[:cap(l)][i])
		if other, there := p[place]; there {
			t.Fatalf("%s lies where %s does", name, other)
		}
		p[place] = name
	}
}

func TestAnswersAreTheirOwn(t *testing.T) { // the rule of memory: spare room too
	given, kinds := roomy(manySorts()), append([]int{1, 0, 0}, 55, 66)[:3]
	r := roomyRow(api.Row{n(1), s("a"), n(3)})
	taken := places{} // it keeps what was told, so that no memory is told twice only because it came to be free
	takeAll(t, taken, "the list that is handed in", given)
	for _, x := range given {
		takeAll(t, taken, "its row", x.Row)
	}
	takeAll(t, taken, "the kinds that are handed in", kinds)
	takeAll(t, taken, "the row that is handed in", r)
	for range 3 {
		for _, kind := range allKinds() {
			got := mustMake(t, kind, howMany(kind), given)
			takeAll(t, taken, "Make of "+kindName(kind), got)
			for _, x := range got {
				takeAll(t, taken, "Make's row of "+kindName(kind), x.Row)
			}
			for key := range 4 {
				k, e := group.Check(kind, key, 1, kinds)
				takeAll(t, taken, "Check of "+kindName(kind), k)
				of, f := group.Key(kind, key, r)
				takeAll(t, taken, "Key of "+kindName(kind), of)
				if e != api.OK || f != api.OK {
					t.Fatalf("%s with the key %d: %d, %d", kindName(kind), key, e, f)
				}
			}
		}
	}
}

func TestRowsThatAreOneIn(t *testing.T) { // the rule of memory: rows that lie at one place when they are handed in
	all := api.Row{n(1), n(2), n(3), n(4)}
	l := []api.Count{{Row: all[:1], Diff: 1}, {Row: all[:2], Diff: 2}, {Row: all[:3], Diff: 3}, {Row: all, Diff: 4}, {Row: all[:2], Diff: 1}}
	for _, kind := range allKinds() {
		for key := range 2 {
			for _, many := range []int{0, 1, 9} {
				holdMake(t, kind, key, many, l)
			}
		}
	}
	taken := places{}
	got, _ := group.Make(api.GroupTop, 1, 99, l)
	takeAll(t, taken, "what is handed in", all)
	for _, x := range got {
		takeAll(t, taken, "a row of the answer", x.Row)
	}
}

func TestAnswersHangOnArgumentsAlone(t *testing.T) { // also behind answers that are spoilt, and behind errors
	for range 3 {
		for _, kind := range allKinds() {
			many := howMany(kind)
			holdMake(t, kind, 1, many, manySorts())
			spoil(mustMake(t, kind, many, manySorts()))
			holdCheck(t, kind, 1, 1, []int{1, 0, 0})
			kinds, _ := group.Check(kind, 1, 1, []int{1, 0, 0})
			for i := range kinds[:cap(kinds)] {
				kinds[:cap(kinds)][i] = -99
			}
			holdKey(t, kind, 1, api.Row{n(1), s("a")})
			k, _ := group.Key(kind, 1, api.Row{n(1), s("a")})
			spoilRow(k)
			group.Make(kind, high, low, manySorts())
			group.Make(kind, 0, 1, []api.Count{c(high, n(1)), c(high, n(2))})
			group.Check(kind, low, high, nil)
			group.Key(kind, -1, nil)
		}
	}
}

func TestCountsAreAsZsetLeavesThem(t *testing.T) { // P15.2: it goes by zset.Less(l, nil), and does not change by it
	x := chance(21)
	for range 500 {
		l := make([]api.Count, x.below(14))
		for i := range l {
			l[i] = api.Count{Row: x.numberRow(2), Diff: x.below(9) - 4}
		}
		there, e := zset.Less(l, nil)
		if e != api.OK {
			t.Fatalf("Less(%v): error %d", l, e)
		}
		for _, kind := range allKinds() {
			got, e := group.Make(kind, 1, 1, l)
			other, f := group.Make(kind, 1, 1, there)
			if !sameCounts(got, other) || e != api.OK || f != api.OK {
				t.Errorf("Make(%s, 1, 1, %v) = %v, %d, of what is there %v, %d", kindName(kind), l, got, e, other, f)
			}
		}
	}
}

// fromBytes is a list of as many rows as the bytes make.
func fromBytes(b []byte) []api.Count {
	edges := []int{low, low / 2, -2, -1, 0, 1, 2, high / 2, high}
	var l []api.Count
	for len(b) > 1 {
		size, diff := int(b[0])%5, edges[int(b[1])%len(edges)]
		if b = b[2:]; size > len(b) {
			size = len(b)
		}
		r := make(api.Row, size)
		for i, x := range b[:size] {
			if r[i] = n(edges[int(x>>2)%len(edges)]); x&3 == 0 {
				r[i] = s(string([]byte{x >> 6}))
			}
		}
		b = b[size:]
		l = append(l, api.Count{Row: r, Diff: diff})
	}
	return l
}

func FuzzGroups(f *testing.F) { // P15.1 to P15.3
	f.Add(1, 1, 1, []byte{2, 5, 1, 1, 2, 6, 5, 9, 2, 3, 1, 7})
	f.Add(2, 0, 1, []byte{2, 8, 33, 33, 2, 8, 33, 29, 1, 2, 4})
	f.Add(5, 1, 1000, []byte{1, 8, 4, 1, 7, 4, 2, 5, 4, 4})
	f.Add(6, -1, 0, []byte{})
	f.Fuzz(func(t *testing.T, kind, key, many int, b []byte) {
		if len(b) > 200 {
			return
		}
		l := fromBytes(b)
		kinds := make([]int, 0, len(b))
		for _, x := range b[:min(len(b), 18)] {
			kinds = append(kinds, int(x)%2)
		}
		// Also folded to what may be, for most numbers there are may not.
		for _, kind := range []int{kind, (kind%6 + 6) % 6} {
			for _, key := range []int{key, key % 4, key % 18} {
				for _, many := range []int{many, many % 4, many % 1001} {
					holdMake(t, kind, key, many, l)
					holdCheck(t, kind, key, many, kinds)
				}
				for _, x := range l {
					holdKey(t, kind, key, x.Row)
				}
			}
		}
	})
}

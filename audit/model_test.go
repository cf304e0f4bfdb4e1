package audit_test

import (
	"fmt"
	"math/big"
	"slices"
	"strings"
	"testing"

	"runnel/api"
	"runnel/audit"
	"runnel/deno"
	"runnel/row"
)

// name is a row as a text, in which only what tells rows apart stands.
func name(l api.Row) string {
	var b strings.Builder
	for _, v := range l {
		switch v.Kind {
		case num:
			fmt.Fprintf(&b, "n%d ", v.Int)
		case text:
			fmt.Fprintf(&b, "t%q ", v.Str)
		default:
			fmt.Fprintf(&b, "k%d ", v.Kind)
		}
	}
	return b.String()
}

// tally keeps how many there are of each row, by its name, with numbers of any length.
type tally struct {
	rows map[string]api.Row
	sums map[string]*big.Int
}

// tallied is what lists have, each with a sign.
func tallied(sign int64, lists ...[]api.Count) tally {
	a := tally{map[string]api.Row{}, map[string]*big.Int{}}
	for _, l := range lists {
		for _, x := range l {
			key := name(x.Row)
			if a.sums[key] == nil {
				a.rows[key], a.sums[key] = x.Row, new(big.Int)
			}
			a.sums[key].Add(a.sums[key], new(big.Int).Mul(big.NewInt(sign), big.NewInt(int64(x.Diff))))
		}
		sign = -sign
	}
	return a
}

// told are the sums that are not 0, by the order of rows; ErrOver: one is too great.
func (a tally) told() ([]api.Count, api.Errno) {
	var l []api.Count
	for key, sum := range a.sums {
		if !sum.IsInt64() {
			return nil, api.ErrOver
		}
		if sum.Sign() != 0 {
			l = append(l, api.Count{Row: a.rows[key], Diff: int(sum.Int64())})
		}
	}
	slices.SortFunc(l, func(x, y api.Count) int { return row.Order(x.Row, y.Row) })
	return l, api.OK
}

// often is how many of a row a list has.
func often(l []api.Count, of api.Row) *big.Int {
	if sum := tallied(1, l).sums[name(of)]; sum != nil {
		return sum
	}
	return new(big.Int)
}

// askedWithout leaves out what the chapter says.
func askedWithout(inputs [][]api.Count, in int, gone api.Row) [][]api.Count {
	left := make([][]api.Count, len(inputs))
	for i := range inputs {
		for _, x := range inputs[i] {
			if i == in && name(x.Row) == name(gone) {
				continue
			}
			left[i] = append(left[i], x)
		}
	}
	return left
}

func askedCount(p api.Plan, inputs [][]api.Count, out int, of api.Row) (*big.Int, api.Errno) {
	has, e := deno.Counts(p, inputs)
	if e == api.OK && (out < 0 || out > len(p.Outs)-1) {
		e = api.ErrRange
	}
	if e != api.OK {
		return nil, e
	}
	return often(has[out], of), api.OK
}

// askedWhy takes each row away by itself, one after the other.
func askedWhy(p api.Plan, inputs [][]api.Count, out int, of api.Row) ([][]api.Count, api.Errno) {
	with, e := askedCount(p, inputs, out, of)
	if e != api.OK {
		return nil, e
	}
	var told [][]api.Count
	for in := range inputs {
		has, e := tallied(1, inputs[in]).told()
		if e != api.OK {
			return nil, e
		}
		var hangs []api.Count
		for _, x := range has {
			without, e := askedCount(p, askedWithout(inputs, in, x.Row), out, of)
			if e != api.OK {
				return nil, e
			}
			more := new(big.Int).Sub(with, without)
			if !more.IsInt64() {
				return nil, api.ErrOver
			}
			if more.Sign() != 0 {
				hangs = append(hangs, api.Count{Row: x.Row, Diff: int(more.Int64())})
			}
		}
		told = append(told, hangs)
	}
	return told, api.OK
}

func askedWhat(p api.Plan, inputs [][]api.Count, in int, gone api.Row) ([][]api.Count, api.Errno) {
	with, e := deno.Counts(p, inputs)
	if e == api.OK && (in < 0 || in > len(inputs)-1) {
		e = api.ErrRange
	}
	if e != api.OK {
		return nil, e
	}
	without, e := deno.Counts(p, askedWithout(inputs, in, gone))
	if e != api.OK {
		return nil, e
	}
	var told [][]api.Count
	for out := range with {
		comes, e := tallied(1, with[out], without[out]).told()
		if e != api.OK {
			return nil, e
		}
		told = append(told, comes)
	}
	return told, api.OK
}

func askedAgree(p, q api.Plan, inputs [][]api.Count) (int, api.Row, api.Errno) {
	a, e := deno.Counts(p, inputs)
	if e != api.OK {
		return 0, nil, e
	}
	b, e := deno.Counts(q, inputs)
	if e != api.OK {
		return 0, nil, e
	}
	if len(p.Outs) != len(q.Outs) {
		return 0, nil, api.ErrArg
	}
	for out := range a {
		var rows []api.Row
		for _, x := range slices.Concat(a[out], b[out]) {
			if often(a[out], x.Row).Cmp(often(b[out], x.Row)) != 0 {
				rows = append(rows, x.Row)
			}
		}
		if len(rows) > 0 {
			return out, slices.MinFunc(rows, row.Order), api.OK
		}
	}
	return 0, nil, api.ErrNone
}

// holdCount holds Count against what is asked; how often the row is there.
func holdCount(t *testing.T, at string, p api.Plan, inputs [][]api.Count, out int, of api.Row) int {
	t.Helper()
	want, fault := askedCount(p, inputs, out, of)
	got, e := audit.Count(p, inputs, out, of)
	if e != fault || e == api.OK && want.Cmp(big.NewInt(int64(got))) != 0 || e != api.OK && got != 0 {
		t.Fatalf("%s: Count of %v at out %d = %d, %d, want %v, %d; of %s, %s", at, of, out, got, int(e), want, int(fault), brief(p), brief(inputs))
	}
	return got
}

func holdWithout(t *testing.T, at string, inputs [][]api.Count, in int, gone api.Row) {
	t.Helper()
	if got, want := audit.Without(inputs, in, gone), askedWithout(inputs, in, gone); !sameLists(got, want) {
		t.Fatalf("%s: Without %v of list %d = %s, want %s", at, gone, in, brief(got), brief(want))
	}
}

func holdWhy(t *testing.T, at string, p api.Plan, inputs [][]api.Count, out int, of api.Row) ([][]api.Count, api.Errno) {
	t.Helper()
	want, fault := askedWhy(p, inputs, out, of)
	got, e := audit.Why(p, inputs, out, of)
	if e != fault || !sameLists(got, want) {
		t.Fatalf("%s: Why %v at out %d = %s, %d, want %s, %d; of %s, %s", at, of, out, brief(got), int(e), brief(want), int(fault), brief(p), brief(inputs))
	}
	return got, e
}

func holdWhat(t *testing.T, at string, p api.Plan, inputs [][]api.Count, in int, gone api.Row) ([][]api.Count, api.Errno) {
	t.Helper()
	want, fault := askedWhat(p, inputs, in, gone)
	got, e := audit.What(p, inputs, in, gone)
	if e != fault || !sameLists(got, want) {
		t.Fatalf("%s: What of %v of list %d = %s, %d, want %s, %d; of %s, %s", at, gone, in, brief(got), int(e), brief(want), int(fault), brief(p), brief(inputs))
	}
	return got, e
}

func holdAgree(t *testing.T, at string, p, q api.Plan, inputs [][]api.Count) api.Errno {
	t.Helper()
	place, first, fault := askedAgree(p, q, inputs)
	out, other, e := audit.Agree(p, q, inputs)
	if e != fault || out != place || !sameRow(other, first) {
		t.Fatalf("%s: Agree = %d, %v, %d, want %d, %v, %d; of %s and %s, %s", at, out, other, int(e), place, first, int(fault), brief(p), brief(q), brief(inputs))
	}
	return e
}

// rowsOf are all rows of lists, each once, in order, and some that none of them has.
func rowsOf(l ...[]api.Count) []api.Row {
	rows := []api.Row{nil, r(77), r("none of them"), r(api.Val{Kind: 9}), many(17, api.Val{})}
	for _, x := range slices.Concat(l...) {
		rows = append(rows, x.Row)
	}
	slices.SortFunc(rows, row.Order)
	return slices.CompactFunc(rows, sameRow)
}

// hold holds all that is told of a plan and lists against what is asked: of all outs and lists, and some that there are not, of all rows that are there, and some that are not.
func hold(t *testing.T, at string, p api.Plan, inputs [][]api.Count) {
	t.Helper()
	has, _ := deno.Counts(p, inputs)
	for _, gone := range rowsOf(inputs...) {
		for in := -1; in <= len(inputs); in++ {
			holdWithout(t, at, inputs, in, gone)
			holdWhat(t, at, p, inputs, in, gone)
		}
	}
	for out := -1; out <= len(p.Outs); out++ {
		rows := rowsOf(has...)
		if out >= 0 && out < len(has) {
			rows = rowsOf(has[out], []api.Count{{Row: rows[len(rows)/2]}})
		}
		for _, of := range rows {
			holdCount(t, at, p, inputs, out, of)
			holdWhy(t, at, p, inputs, out, of)
		}
	}
	if e := holdAgree(t, at, p, p, inputs); len(has) > 0 && e != api.ErrNone {
		t.Fatalf("%s: it does not agree with itself: %d", at, int(e))
	}
}

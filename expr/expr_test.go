package expr_test

import (
	"bytes"
	"cmp"
	"fmt"
	"math"
	"math/big"
	"reflect"
	"slices"
	"strings"
	"testing"

	"runnel/api"
	"runnel/expr"
	"runnel/row"
)

const (
	low  = math.MinInt
	high = math.MaxInt
	odd  = 7 // a kind that is neither
)

type terms = []api.Term

func col(i int) api.Term     { return api.Term{Op: api.OpCol, Int: i} }
func num(x int) api.Term     { return api.Term{Op: api.OpInt, Int: x} }
func txt(s string) api.Term  { return api.Term{Op: api.OpStr, Str: s} }
func op(o int) api.Term      { return api.Term{Op: o} }
func n(x int) api.Val        { return api.Val{Kind: api.KindInt, Int: x} }
func s(x string) api.Val     { return api.Val{Kind: api.KindStr, Str: x} }
func other(kind int) api.Val { return api.Val{Kind: kind} }

// lay is the step that lays a value.
func lay(v api.Val) api.Term {
	if v.Kind == api.KindStr {
		return txt(v.Str)
	}
	return num(v.Int)
}

// of is a step behind those that lay what it takes.
func of(o int, vals ...api.Val) terms {
	var l terms
	for _, v := range vals {
		l = append(l, lay(v))
	}
	return append(l, op(o))
}

// ofCols is a step behind those that lay the columns of a row of just what it takes.
func ofCols(o int, vals ...api.Val) (terms, api.Row) {
	var l terms
	for i := range vals {
		l = append(l, col(i))
	}
	return append(l, op(o)), vals
}

func kindsOf(r api.Row) []int {
	var kinds []int
	for _, v := range r {
		kinds = append(kinds, v.Kind)
	}
	return kinds
}

// laden is the value with the fields that play no part filled.
func laden(v api.Val, by int) api.Val {
	if v.Kind != api.KindInt {
		v.Int = []int{low, 7, -1}[by%3]
	}
	if v.Kind != api.KindStr {
		v.Str = []string{strings.Repeat("z", api.MaxText+1), "a", "b"}[by%3]
	}
	return v
}

func ladenRow(r api.Row) api.Row {
	l := make(api.Row, len(r))
	for i, v := range r {
		l[i] = laden(v, i)
	}
	return l
}

// ladenTerms is the list with the fields that play no part filled.
func ladenTerms(l terms) terms {
	l = slices.Clone(l)
	for i, t := range l {
		if t.Op != api.OpCol && t.Op != api.OpInt {
			l[i].Int = []int{low, -1, 0, 1, 99}[i%5]
		}
		if t.Op != api.OpStr {
			l[i].Str = []string{"", "x", strings.Repeat("z", api.MaxText+1)}[i%3]
		}
	}
	return l
}

// sign is what a step takes and what it lays: n for a number, t for a text, x for any kind, which is the same wherever x stands.
func sign(o int) (takes, lays string) {
	switch o {
	case api.OpInt:
		return "", "n"
	case api.OpStr:
		return "", "t"
	case api.OpAdd, api.OpSub, api.OpMul, api.OpDiv, api.OpMod, api.OpAnd, api.OpOr:
		return "nn", "n"
	case api.OpNeg, api.OpNot:
		return "n", "n"
	case api.OpEq, api.OpLess:
		return "xx", "n"
	case api.OpMin, api.OpMax:
		return "xx", "x"
	case api.OpIf:
		return "nxx", "x"
	case api.OpLen:
		return "t", "n"
	case api.OpCat:
		return "tt", "t"
	}
	return "", "?"
}

// typed is Type as the chapter says it.
func typed(l terms, kinds []int) (kind int, e api.Errno, at int) {
	if len(l) == 0 {
		return 0, api.ErrArg, 0
	}
	if len(l) > api.MaxTerms {
		return 0, api.ErrMany, 0
	}
	var on []int
	for i, t := range l {
		takes, lays := sign(t.Op)
		if t.Op < api.OpCol || t.Op > api.OpMax {
			return 0, api.ErrKind, i
		}
		if t.Op == api.OpCol && !(t.Int >= 0 && t.Int < len(kinds)) {
			return 0, api.ErrRange, i
		}
		if t.Op == api.OpStr && len(t.Str) > api.MaxText {
			return 0, api.ErrLong, i
		}
		if len(on) < len(takes) {
			return 0, api.ErrForm, i
		}
		letters := map[byte]int{'n': api.KindInt, 't': api.KindStr}
		if t.Op == api.OpCol {
			letters['?'] = kinds[t.Int]
		}
		from := len(on) - len(takes)
		for k := range takes {
			known, ok := letters[takes[k]]
			if ok && known != on[from+k] {
				return 0, api.ErrType, i
			}
			letters[takes[k]] = on[from+k]
		}
		on = append(on[:from], letters[lays[0]])
		if len(on) > api.MaxStack {
			return 0, api.ErrMany, i
		}
	}
	if len(on) != 1 {
		return 0, api.ErrForm, len(l)
	}
	return on[0], api.OK, len(l)
}

// compared is row.Cmp of two values of one kind.
func compared(a, b api.Val) int {
	switch a.Kind {
	case api.KindInt:
		return cmp.Compare(a.Int, b.Int)
	case api.KindStr:
		return bytes.Compare([]byte(a.Str), []byte(b.Str))
	}
	return 0
}

func truth(holds bool) *big.Int {
	if holds {
		return big.NewInt(1)
	}
	return new(big.Int)
}

func fitting(x *big.Int) (api.Val, api.Errno) {
	if !x.IsInt64() {
		return api.Val{}, api.ErrOver
	}
	return n(int(x.Int64())), api.OK
}

// reckoned is a step over two numbers (of one alone, the second one is 0), in numbers of any length.
func reckoned(o, first, second int) (api.Val, api.Errno) {
	a, b, x := big.NewInt(int64(first)), big.NewInt(int64(second)), new(big.Int)
	switch o {
	case api.OpAdd:
		return fitting(x.Add(a, b))
	case api.OpSub:
		return fitting(x.Sub(a, b))
	case api.OpMul:
		return fitting(x.Mul(a, b))
	case api.OpNeg:
		return fitting(x.Neg(a))
	case api.OpNot:
		return fitting(truth(first == 0))
	case api.OpAnd:
		return fitting(truth(first != 0 && second != 0))
	case api.OpOr:
		return fitting(truth(first != 0 || second != 0))
	}
	if second == 0 {
		return n(0), api.OK
	}
	quotient, e := fitting(x.Quo(a, b))
	if o == api.OpMod && e == api.OK {
		return fitting(a.Sub(a, b.Mul(b, x)))
	}
	return quotient, e
}

// done is what a step lays of what it takes.
func done(o int, v []api.Val) (api.Val, api.Errno) {
	switch o {
	case api.OpEq:
		return fitting(truth(compared(v[0], v[1]) == 0))
	case api.OpLess:
		return fitting(truth(compared(v[0], v[1]) < 0))
	case api.OpMin:
		return [3]api.Val{v[0], v[0], v[1]}[1+compared(v[0], v[1])], api.OK
	case api.OpMax:
		return [3]api.Val{v[1], v[0], v[0]}[1+compared(v[0], v[1])], api.OK
	case api.OpIf:
		if v[0].Int == 0 {
			return v[2], api.OK
		}
		return v[1], api.OK
	case api.OpLen:
		return n(len(v[0].Str)), api.OK
	case api.OpCat:
		if whole := v[0].Str + v[1].Str; len(whole) <= api.MaxText {
			return s(whole), api.OK
		}
		return api.Val{}, api.ErrLong
	case api.OpNeg, api.OpNot:
		return reckoned(o, v[0].Int, 0)
	}
	return reckoned(o, v[0].Int, v[1].Int)
}

// valued is Eval as the chapter says it.
func valued(l terms, r api.Row) (api.Val, api.Errno) {
	if _, e, _ := typed(l, kindsOf(r)); e != api.OK {
		return api.Val{}, e
	}
	var on []api.Val
	for _, t := range l {
		switch t.Op {
		case api.OpCol:
			on = append(on, r[t.Int])
		case api.OpInt:
			on = append(on, n(t.Int))
		case api.OpStr:
			on = append(on, s(t.Str))
		default:
			takes, _ := sign(t.Op)
			from := len(on) - len(takes)
			v, e := done(t.Op, on[from:])
			if e != api.OK {
				return api.Val{}, e
			}
			on = append(slices.Clone(on[:from]), v)
		}
	}
	return bare(on[0]), api.OK
}

// bare is the value with the fields that play no part zero.
func bare(v api.Val) api.Val {
	switch v.Kind {
	case api.KindInt:
		return n(v.Int)
	case api.KindStr:
		return s(v.Str)
	}
	return other(v.Kind)
}

// told is something as a text that is not too long for a line.
func told(x any) string {
	line := strings.ToValidUTF8(fmt.Sprintf("%+v", x), "?")
	return line[:min(len(line), 400)]
}

func holdType(t *testing.T, l terms, kinds []int, kind int, e api.Errno, at int) {
	t.Helper()
	gotKind, gotErr, gotAt := expr.Type(l, kinds)
	if gotKind != kind || gotErr != e || gotAt != at {
		t.Fatalf("Type(%s, %v): %d, %d at %d, want %d, %d at %d", told(l), kinds, gotKind, int(gotErr), gotAt, kind, int(e), at)
	}
}

func holdEval(t *testing.T, l terms, r api.Row, want api.Val, e api.Errno) {
	t.Helper()
	got, gotErr := expr.Eval(l, r)
	if got != want || gotErr != e {
		t.Fatalf("Eval(%s, %s): %s, %d, want %s, %d", told(l), told(r), told(got), int(gotErr), told(want), int(e))
	}
}

// hold asks both of a list and a row, as the chapter says it.
func hold(t *testing.T, l terms, r api.Row) {
	t.Helper()
	kind, e, at := typed(l, kindsOf(r))
	holdType(t, l, kindsOf(r), kind, e, at)
	v, e := valued(l, r)
	holdEval(t, l, r, v, e)
	if e == api.OK && v.Kind != kind {
		t.Fatalf("the kind of %s is not %d, as is told of %s", told(v), kind, told(l)) // P8.4
	}
}

// numbers are the edges, and what is near them.
func numbers() []int {
	return []int{low, low + 1, -1 << 62, -1 << 32, -1<<31 - 1, -8, -7, -3, -2, -1, 0, 1, 2, 3, 7, 8, 1 << 31, 1<<32 - 1, 1 << 62, high - 1, high}
}

// texts are some in order.
func texts() []string {
	full := strings.Repeat("t", api.MaxText)
	return []string{"", "\x00", "\x00\x00", "A", "a", "a\x00", "aa", "ab", "b", full[1:], full, "\xc3\xa4", "\xff", "\xff\x00"}
}

func TestPage(t *testing.T) { // the page's example
	l := terms{col(0), num(2), op(api.OpMul)}
	holdEval(t, l, api.Row{n(21)}, n(42), api.OK)
	holdEval(t, l, api.Row{s("a")}, api.Val{}, api.ErrType)
	holdType(t, l, []int{api.KindInt}, api.KindInt, api.OK, 3)
	holdType(t, l, []int{api.KindStr}, 0, api.ErrType, 2)
}

func TestSteps(t *testing.T) { // P8.1: told by hand
	r := api.Row{n(21), s("ab"), n(-7), other(odd)}
	for _, k := range []struct {
		l    terms
		want api.Val
	}{
		{terms{col(0)}, n(21)},
		{terms{col(1)}, s("ab")},
		{terms{col(2)}, n(-7)},
		{terms{col(3)}, other(odd)},
		{terms{num(5)}, n(5)},
		{terms{txt("abc")}, s("abc")},
		{terms{txt("")}, s("")},
		{of(api.OpAdd, n(7), n(2)), n(9)},
		{of(api.OpSub, n(7), n(2)), n(5)},
		{of(api.OpSub, n(2), n(7)), n(-5)},
		{of(api.OpMul, n(7), n(-2)), n(-14)},
		{of(api.OpDiv, n(7), n(2)), n(3)},
		{of(api.OpDiv, n(-7), n(2)), n(-3)},
		{of(api.OpDiv, n(7), n(-2)), n(-3)},
		{of(api.OpDiv, n(-7), n(-2)), n(3)},
		{of(api.OpDiv, n(2), n(7)), n(0)},
		{of(api.OpDiv, n(7), n(0)), n(0)},
		{of(api.OpDiv, n(0), n(0)), n(0)},
		{of(api.OpDiv, n(low), n(0)), n(0)},
		{of(api.OpDiv, n(low), n(1)), n(low)},
		{of(api.OpDiv, n(high), n(-1)), n(-high)},
		{of(api.OpDiv, n(low+1), n(-1)), n(high)},
		{of(api.OpDiv, n(low), n(low)), n(1)},
		{of(api.OpDiv, n(high), n(low)), n(0)},
		{of(api.OpDiv, n(low), n(high)), n(-1)},
		{of(api.OpDiv, n(-1), n(low)), n(0)},
		{of(api.OpMod, n(7), n(2)), n(1)},
		{of(api.OpMod, n(-7), n(2)), n(-1)},
		{of(api.OpMod, n(7), n(-2)), n(1)},
		{of(api.OpMod, n(-7), n(-2)), n(-1)},
		{of(api.OpMod, n(2), n(7)), n(2)},
		{of(api.OpMod, n(7), n(0)), n(0)},
		{of(api.OpMod, n(low), n(0)), n(0)},
		{of(api.OpMod, n(low), n(1)), n(0)},
		{of(api.OpMod, n(low+1), n(-1)), n(0)},
		{of(api.OpMod, n(low), n(high)), n(-1)},
		{of(api.OpMod, n(high), n(low)), n(high)},
		{of(api.OpNeg, n(7)), n(-7)},
		{of(api.OpNeg, n(0)), n(0)},
		{of(api.OpNeg, n(high)), n(low + 1)},
		{of(api.OpEq, n(7), n(7)), n(1)},
		{of(api.OpEq, n(7), n(8)), n(0)},
		{of(api.OpEq, s("a"), s("a")), n(1)},
		{of(api.OpEq, s("a"), s("a\x00")), n(0)},
		{of(api.OpLess, n(-7), n(2)), n(1)},
		{of(api.OpLess, n(2), n(2)), n(0)},
		{of(api.OpLess, n(2), n(-7)), n(0)},
		{of(api.OpLess, n(low), n(high)), n(1)},
		{of(api.OpLess, s("a"), s("b")), n(1)},
		{of(api.OpLess, s("a"), s("aa")), n(1)},
		{of(api.OpLess, s("b"), s("aa")), n(0)},
		{of(api.OpLess, s("a"), s("\xff")), n(1)},
		{of(api.OpLess, s("a"), s("a")), n(0)},
		{of(api.OpNot, n(0)), n(1)},
		{of(api.OpNot, n(1)), n(0)},
		{of(api.OpNot, n(-5)), n(0)},
		{of(api.OpAnd, n(2), n(-5)), n(1)},
		{of(api.OpAnd, n(2), n(0)), n(0)},
		{of(api.OpAnd, n(0), n(2)), n(0)},
		{of(api.OpAnd, n(1), n(2)), n(1)}, // not bit by bit
		{of(api.OpAnd, n(0), n(0)), n(0)},
		{of(api.OpOr, n(2), n(-5)), n(1)},
		{of(api.OpOr, n(4), n(0)), n(1)},
		{of(api.OpOr, n(0), n(4)), n(1)},
		{of(api.OpOr, n(0), n(0)), n(0)},
		{of(api.OpIf, n(1), n(5), n(6)), n(5)},
		{of(api.OpIf, n(-1), n(5), n(6)), n(5)},
		{of(api.OpIf, n(0), n(5), n(6)), n(6)},
		{of(api.OpIf, n(2), s("x"), s("y")), s("x")},
		{of(api.OpIf, n(0), s("x"), s("y")), s("y")},
		{of(api.OpLen, s("")), n(0)},
		{of(api.OpLen, s("ab\x00")), n(3)},
		{of(api.OpLen, s("ä")), n(2)},
		{of(api.OpCat, s("ab"), s("c")), s("abc")},
		{of(api.OpCat, s(""), s("c")), s("c")},
		{of(api.OpCat, s("ab"), s("")), s("ab")},
		{of(api.OpCat, s(""), s("")), s("")},
		{of(api.OpMin, n(5), n(-6)), n(-6)},
		{of(api.OpMin, n(-6), n(5)), n(-6)},
		{of(api.OpMin, s("b"), s("aa")), s("aa")},
		{of(api.OpMin, s("aa"), s("b")), s("aa")},
		{of(api.OpMax, n(5), n(-6)), n(5)},
		{of(api.OpMax, n(-6), n(5)), n(5)},
		{of(api.OpMax, s("b"), s("aa")), s("b")},
		{of(api.OpMax, s("aa"), s("b")), s("b")},
		{terms{col(1), txt("c"), op(api.OpCat), op(api.OpLen), col(0), op(api.OpSub)}, n(-18)},
		{terms{num(1), num(2), num(3), op(api.OpSub), op(api.OpSub)}, n(2)},
		{terms{num(1), num(2), op(api.OpSub), num(3), op(api.OpSub)}, n(-4)},
		{terms{col(0), col(2), op(api.OpLess), op(api.OpNot), col(1), txt("z"), op(api.OpIf)}, s("ab")},
	} {
		holdEval(t, k.l, r, k.want, api.OK)
		holdType(t, k.l, kindsOf(r), k.want.Kind, api.OK, len(k.l))
	}
}

func TestNumbersOfEachStep(t *testing.T) { // P8.1, P8.3: laid, and of columns
	for o := api.OpAdd; o <= api.OpMax; o++ {
		for _, x := range numbers() {
			hold(t, of(o, n(x)), nil)
			l, r := ofCols(o, n(x))
			hold(t, l, r)
			for _, y := range numbers() {
				hold(t, of(o, n(x), n(y)), nil)
				l, r := ofCols(o, n(x), n(y))
				hold(t, l, r)
			}
		}
	}
	for _, c := range numbers() {
		for _, x := range []int{low, -1, 0, 1, high} {
			for _, y := range []int{low, -1, 0, 1, high} {
				hold(t, of(api.OpIf, n(c), n(x), n(y)), nil)
				l, r := ofCols(api.OpIf, n(c), n(x), n(y))
				hold(t, l, r)
			}
		}
	}
}

func TestTextsOfEachStep(t *testing.T) { // P8.1, P8.3
	for o := api.OpAdd; o <= api.OpMax; o++ {
		for _, x := range texts() {
			hold(t, of(o, s(x)), nil)
			l, r := ofCols(o, s(x))
			hold(t, l, r)
			for _, y := range texts() {
				hold(t, of(o, s(x), s(y)), nil)
				l, r := ofCols(o, s(x), s(y))
				hold(t, l, r)
				hold(t, of(o, n(len(x)%2), s(x), s(y)), nil)
			}
		}
	}
}

func TestAlike(t *testing.T) { // P8.1: of two that are alike each is the one
	for _, v := range []api.Val{n(low), n(-1), n(0), n(high), s(""), s("a"), s(texts()[9]), other(odd), other(-1), other(low), other(high)} {
		for by := range 3 {
			for _, o := range []int{api.OpMin, api.OpMax} {
				l, r := ofCols(o, laden(v, by), laden(v, by+1))
				holdEval(t, l, r, v, api.OK)
			}
			l, r := ofCols(api.OpEq, laden(v, by), laden(v, by+1))
			holdEval(t, l, r, n(1), api.OK)
			l, r = ofCols(api.OpLess, laden(v, by), laden(v, by+1))
			holdEval(t, l, r, n(0), api.OK)
		}
	}
}

func TestOtherKinds(t *testing.T) { // P8.2: a kind that is neither fits nothing but itself
	for _, kind := range []int{low, -1, 2, odd, 256, 1 << 32, high} {
		kinds := []int{kind, api.KindInt, api.KindStr, kind, kind + kind/2}
		holdType(t, terms{col(0)}, kinds, kind, api.OK, 1)
		for _, o := range []int{api.OpMin, api.OpMax} {
			holdType(t, terms{col(0), col(3), op(o)}, kinds, kind, api.OK, 3)
		}
		for _, o := range []int{api.OpEq, api.OpLess} {
			holdType(t, terms{col(3), col(0), op(o)}, kinds, api.KindInt, api.OK, 3)
		}
		holdType(t, terms{num(1), col(0), col(3), op(api.OpIf)}, kinds, kind, api.OK, 4)
		holdType(t, terms{col(0), num(1), num(1), op(api.OpIf)}, kinds, 0, api.ErrType, 3)
		for _, o := range []int{api.OpNeg, api.OpNot, api.OpLen} {
			holdType(t, terms{col(0), op(o)}, kinds, 0, api.ErrType, 1)
		}
		for o := api.OpAdd; o <= api.OpMax; o++ {
			takes, _ := sign(o)
			for _, c := range []int{1, 2, 4} {
				if len(takes) == 1 || kind == kinds[c] {
					continue
				}
				one, two := terms{num(1), col(0), col(c), op(o)}, terms{num(1), col(c), col(0), op(o)}
				holdType(t, one, kinds, 0, api.ErrType, 3)
				holdType(t, two, kinds, 0, api.ErrType, 3)
			}
			if takes == "nn" || takes == "tt" {
				holdType(t, terms{col(0), col(3), op(o)}, kinds, 0, api.ErrType, 2)
			}
		}
		r := api.Row{{Kind: kind, Int: 5, Str: "x"}, {Kind: kind, Int: 4, Str: "y"}}
		holdEval(t, terms{col(0)}, r, other(kind), api.OK)
		holdEval(t, terms{col(0), col(1), op(api.OpEq)}, r, n(1), api.OK)
		holdEval(t, terms{num(0), col(0), col(1), op(api.OpIf)}, r, other(kind), api.OK)
		holdEval(t, terms{col(0), num(1), op(api.OpEq)}, r, api.Val{}, api.ErrType)
	}
}

func TestKindsOfEachStep(t *testing.T) { // P8.2: each step over all kinds of what it takes
	kinds := []int{api.KindInt, api.KindStr, odd, -1}
	for o := api.OpAdd; o <= api.OpMax; o++ {
		for a := range kinds {
			for b := range kinds {
				for c := range kinds {
					for from := range 4 {
						l := append(terms{col(c), col(a), col(b)}[from:], op(o))
						kind, e, at := typed(l, kinds)
						holdType(t, l, kinds, kind, e, at)
					}
				}
			}
		}
	}
}

// many is the step so often.
func many(count int, t api.Term) terms { return slices.Repeat(terms{t}, count) }

func TestFaults(t *testing.T) { // P8.2: wrong inputs, the kind is 0 beside each
	long := txt(strings.Repeat("t", api.MaxText+1))
	kinds := []int{api.KindInt, api.KindStr, odd}
	for _, k := range []struct {
		what string
		l    terms
		e    api.Errno
		at   int
	}{
		{"no step", nil, api.ErrArg, 0},
		{"no step, empty", terms{}, api.ErrArg, 0},
		{"a step too many", append(terms{num(1)}, many(api.MaxTerms, op(api.OpNeg))...), api.ErrMany, 0},
		{"far too many", append(terms{num(1)}, many(1000, op(api.OpNeg))...), api.ErrMany, 0},
		{"a step too many, with a fault ahead", many(api.MaxTerms+1, op(-1)), api.ErrMany, 0},
		{"a step too many, and the stack too high", many(api.MaxTerms+1, num(1)), api.ErrMany, 0},
		{"step -1", terms{op(-1)}, api.ErrKind, 0},
		{"step 19", terms{op(api.Ops)}, api.ErrKind, 0},
		{"the least step", terms{op(low)}, api.ErrKind, 0},
		{"the greatest step", terms{op(high)}, api.ErrKind, 0},
		{"a step that is a byte's 1", terms{op(257)}, api.ErrKind, 0},
		{"a step that is 32 bits' 1", terms{op(1<<32 + 1)}, api.ErrKind, 0},
		{"no such step, later", terms{num(1), op(api.Ops)}, api.ErrKind, 1},
		{"a column below 0", terms{col(-1)}, api.ErrRange, 0},
		{"the least column", terms{col(low)}, api.ErrRange, 0},
		{"a column behind the last", terms{col(3)}, api.ErrRange, 0},
		{"the greatest column", terms{num(1), col(high)}, api.ErrRange, 1},
		{"a text that is too long", terms{long}, api.ErrLong, 0},
		{"a text that is too long, later", terms{txt("a"), long, op(api.OpCat)}, api.ErrLong, 1},
		{"nothing to negate", terms{op(api.OpNeg)}, api.ErrForm, 0},
		{"nothing to measure", terms{op(api.OpLen)}, api.ErrForm, 0},
		{"nothing to add", terms{op(api.OpAdd)}, api.ErrForm, 0},
		{"one to add", terms{num(1), op(api.OpAdd)}, api.ErrForm, 1},
		{"two to choose", terms{num(1), num(1), op(api.OpIf)}, api.ErrForm, 2},
		{"one to join", terms{txt("a"), op(api.OpCat)}, api.ErrForm, 1},
		{"one to hold", terms{txt("a"), op(api.OpMax)}, api.ErrForm, 1},
		{"what was taken is gone", terms{num(1), num(2), op(api.OpAdd), op(api.OpAdd)}, api.ErrForm, 3},
		{"a text to negate", terms{txt("a"), op(api.OpNeg)}, api.ErrType, 1},
		{"a number to measure", terms{num(1), op(api.OpLen)}, api.ErrType, 1},
		{"a text above", terms{num(1), txt("a"), op(api.OpAdd)}, api.ErrType, 2},
		{"a text below", terms{txt("a"), num(1), op(api.OpAdd)}, api.ErrType, 2},
		{"two texts to add", terms{txt("a"), txt("a"), op(api.OpAdd)}, api.ErrType, 2},
		{"two numbers to join", terms{num(1), num(1), op(api.OpCat)}, api.ErrType, 2},
		{"a number and a text to hold", terms{num(1), txt("a"), op(api.OpEq)}, api.ErrType, 2},
		{"a text that chooses", terms{txt("a"), num(1), num(1), op(api.OpIf)}, api.ErrType, 3},
		{"a text and a number to choose", terms{num(1), txt("a"), num(1), op(api.OpIf)}, api.ErrType, 3},
		{"a text that chooses of texts", terms{txt("a"), txt("b"), txt("c"), op(api.OpIf)}, api.ErrType, 3},
		{"what is held is a number", terms{txt("a"), txt("b"), op(api.OpEq), op(api.OpLen)}, api.ErrType, 3},
		{"what is measured is a number", terms{txt("a"), op(api.OpLen), op(api.OpLen)}, api.ErrType, 2},
		{"what is joined is a text", terms{txt("a"), txt("b"), op(api.OpCat), op(api.OpNot)}, api.ErrType, 3},
		{"a value too many", many(api.MaxStack+1, num(1)), api.ErrMany, api.MaxStack},
		{"a text too many", append(many(api.MaxStack, num(1)), txt("a"), op(api.OpCat)), api.ErrMany, api.MaxStack},
		{"a column too many", append(many(api.MaxStack, col(0)), col(1)), api.ErrMany, api.MaxStack},
		{"two values in the end", terms{num(1), num(1)}, api.ErrForm, 2},
		{"two in the end, of three", terms{num(1), num(2), num(3), op(api.OpAdd)}, api.ErrForm, 4},
		{"all in the end", many(api.MaxStack, num(1)), api.ErrForm, api.MaxStack},
	} {
		t.Run(k.what, func(t *testing.T) {
			holdType(t, k.l, kinds, 0, k.e, k.at)
			holdEval(t, k.l, api.Row{n(1), s("b"), other(odd)}, api.Val{}, k.e)
		})
	}
	for _, none := range [][]int{nil, {}} {
		holdType(t, terms{col(0)}, none, 0, api.ErrRange, 0)
	}
	holdEval(t, terms{col(0)}, nil, api.Val{}, api.ErrRange)
}

func TestFirstFault(t *testing.T) { // P8.2: of several the first in the list; of several at one step the one that is named first
	long := txt(strings.Repeat("t", api.MaxText+1))
	full := many(api.MaxStack, num(1))
	behind := func(l terms, more ...api.Term) terms { return slices.Concat(l, more) }
	for _, k := range []struct {
		what string
		l    terms
		e    api.Errno
		at   int
	}{
		{"kind, then range", terms{op(-1), col(9)}, api.ErrKind, 0},
		{"range, then kind", terms{col(9), op(-1)}, api.ErrRange, 0},
		{"long, then range", terms{num(1), long, col(9)}, api.ErrLong, 1},
		{"range, then long", terms{num(1), col(9), long}, api.ErrRange, 1},
		{"form, then kind", terms{num(1), op(api.OpIf), op(-1)}, api.ErrForm, 1},
		{"type, then form", terms{txt("a"), op(api.OpNeg), op(api.OpIf)}, api.ErrType, 1},
		{"form, then type", terms{txt("a"), op(api.OpCat), op(api.OpNeg)}, api.ErrForm, 1},
		{"many, then kind", behind(full, num(1), op(-1)), api.ErrMany, api.MaxStack},
		{"type, then many", behind(terms{txt("a"), op(api.OpNeg)}, many(api.MaxStack+1, num(1))...), api.ErrType, 1},
		{"kind, then the end", terms{num(1), num(1), op(99)}, api.ErrKind, 2},
		{"type, then the end", terms{num(1), txt("a"), op(api.OpNot)}, api.ErrType, 2},
		{"kind on a full stack", behind(full, op(-1)), api.ErrKind, api.MaxStack},
		{"kind on nothing", terms{{Op: api.Ops, Int: -1, Str: long.Str}}, api.ErrKind, 0},
		{"range on a full stack", behind(full, col(-1)), api.ErrRange, api.MaxStack},
		{"long on a full stack", behind(full, long), api.ErrLong, api.MaxStack},
		{"a text alone, to add", terms{txt("a"), op(api.OpAdd)}, api.ErrForm, 1},
		{"a number alone, to join", terms{num(1), op(api.OpCat)}, api.ErrForm, 1},
		{"two that do not fit, to choose", terms{txt("a"), num(1), op(api.OpIf)}, api.ErrForm, 2},
	} {
		t.Run(k.what, func(t *testing.T) {
			holdType(t, k.l, []int{api.KindInt}, 0, k.e, k.at)
			holdEval(t, k.l, api.Row{n(0)}, api.Val{}, k.e)
		})
	}
}

func TestLimits(t *testing.T) { // P8.2, P8.3: each limit is itself allowed
	for _, steps := range []int{1, 2, api.MaxTerms - 1, api.MaxTerms} {
		l := append(terms{num(1)}, many(steps-1, op(api.OpNeg))...)
		holdType(t, l, nil, api.KindInt, api.OK, steps)
		holdEval(t, l, nil, n(1-2*((steps-1)%2)), api.OK)
	}
	for _, values := range []int{1, 2, api.MaxStack - 1, api.MaxStack} {
		l := append(many(values, num(3)), many(values-1, op(api.OpAdd))...)
		holdType(t, l, nil, api.KindInt, api.OK, 2*values-1)
		holdEval(t, l, nil, n(3*values), api.OK)
		again := slices.Concat(l, many(1, op(api.OpNeg)), many(values-1, num(1)), many(values-1, op(api.OpAdd)))
		holdEval(t, again, nil, n(values-1-3*values), api.OK)
	}
	full := strings.Repeat("t", api.MaxText)
	holdType(t, terms{txt(full)}, nil, api.KindStr, api.OK, 1)
	holdEval(t, terms{txt(full)}, nil, s(full), api.OK)
	holdEval(t, terms{txt(full), op(api.OpLen)}, nil, n(api.MaxText), api.OK)
	for _, part := range []int{0, 1, api.MaxText / 2, api.MaxText - 1, api.MaxText} {
		holdEval(t, terms{txt(full[part:]), txt(full[:part]), op(api.OpCat)}, nil, s(full), api.OK)
		holdEval(t, terms{txt(full[part:]), txt(full[:part]), op(api.OpCat), txt("x"), op(api.OpCat)}, nil, api.Val{}, api.ErrLong)
		holdEval(t, terms{txt("x"), txt(full[part:]), txt(full[:part]), op(api.OpCat), op(api.OpCat)}, nil, api.Val{}, api.ErrLong)
	}
}

func TestLongRows(t *testing.T) { // P8.3: also of rows that row.Check does not take
	long := strings.Repeat("t", api.MaxText+1)
	r := slices.Repeat(api.Row{s(long), n(3)}, 2*api.MaxCols)
	holdEval(t, terms{col(len(r) - 1)}, r, n(3), api.OK)
	holdEval(t, terms{col(0)}, r, s(long), api.OK)
	holdEval(t, terms{col(0), op(api.OpLen)}, r, n(api.MaxText+1), api.OK)
	holdEval(t, terms{col(0), txt("u"), op(api.OpMin)}, r, s(long), api.OK)
	holdEval(t, terms{col(0), txt(""), op(api.OpCat)}, r, api.Val{}, api.ErrLong)
	holdEval(t, terms{col(len(r))}, r, api.Val{}, api.ErrRange)
}

func TestTooGreat(t *testing.T) { // P8.3: wrong inputs, and nothing else is answered
	full := txt(strings.Repeat("t", api.MaxText))
	over := terms{num(high), num(1), op(api.OpAdd)}
	tooLong := terms{full, txt("a"), op(api.OpCat)}
	for _, k := range []struct {
		what string
		l    terms
		e    api.Errno
	}{
		{"a sum", over, api.ErrOver},
		{"a sum of negative ones", of(api.OpAdd, n(low), n(-1)), api.ErrOver},
		{"a difference", of(api.OpSub, n(low), n(1)), api.ErrOver},
		{"a difference from 0", of(api.OpSub, n(0), n(low)), api.ErrOver},
		{"a product", of(api.OpMul, n(1<<32), n(1<<31)), api.ErrOver},
		{"a product with -1", of(api.OpMul, n(low), n(-1)), api.ErrOver},
		{"a product with -1, the other way", of(api.OpMul, n(-1), n(low)), api.ErrOver},
		{"a negative", of(api.OpNeg, n(low)), api.ErrOver},
		{"a quotient", of(api.OpDiv, n(low), n(-1)), api.ErrOver},
		{"what is left", of(api.OpMod, n(low), n(-1)), api.ErrOver},
		{"a text", tooLong, api.ErrLong},
		{"a text of two", terms{full, full, op(api.OpCat)}, api.ErrLong},
		{"of numbers that are not chosen", slices.Concat(terms{num(1), num(5)}, over, terms{op(api.OpIf)}), api.ErrOver},
		{"of texts that are not chosen", slices.Concat(terms{num(0)}, tooLong, terms{txt("b"), op(api.OpIf)}), api.ErrLong},
		{"what is 0 already", slices.Concat(terms{num(0)}, over, terms{op(api.OpAnd)}), api.ErrOver},
		{"what would fit again", slices.Concat(over, terms{num(1), op(api.OpSub)}), api.ErrOver},
		{"what is not needed by its length", slices.Concat(tooLong, terms{op(api.OpLen)}), api.ErrLong},
		{"a number, then a text", slices.Concat(over, tooLong, terms{op(api.OpLen), op(api.OpAdd)}), api.ErrOver},
		{"a text, then a number", slices.Concat(tooLong, terms{op(api.OpLen)}, over, terms{op(api.OpAdd)}), api.ErrLong},
		{"a number, then a kind", slices.Concat(over, terms{op(api.OpLen)}), api.ErrType},
		{"a number, then no step", slices.Concat(over, terms{op(api.Ops)}), api.ErrKind},
		{"a number, then no column", slices.Concat(over, terms{col(0)}), api.ErrRange},
		{"a number, then too few", slices.Concat(over, terms{op(api.OpAdd)}), api.ErrForm},
		{"a number, then one more in the end", slices.Concat(over, terms{num(1)}), api.ErrForm},
		{"a text, then a text that is laid", slices.Concat(tooLong, terms{txt(full.Str + "x"), op(api.OpCat)}), api.ErrLong},
		{"a number, then the stack", slices.Concat(over, many(api.MaxStack, num(1))), api.ErrMany},
	} {
		t.Run(k.what, func(t *testing.T) {
			holdEval(t, k.l, nil, api.Val{}, k.e)
		})
	}
}

func TestFieldsThatPlayNoPart(t *testing.T) { // the rule of rows; what plays no part is zero in an answer
	r := api.Row{n(21), s("ab"), n(0), other(odd), s("")}
	kinds := kindsOf(r)
	for _, l := range slices.Concat(shortLists(2), longLists(600)) {
		kind, e, at := expr.Type(l, kinds)
		holdType(t, ladenTerms(l), kinds, kind, e, at)
		v, e := expr.Eval(l, r)
		holdEval(t, ladenTerms(l), ladenRow(r), v, e)
		if v != bare(v) {
			t.Fatalf("Eval(%s) = %s: a field that plays no part is filled", told(l), told(v))
		}
	}
	for i, v := range r {
		holdEval(t, terms{col(i)}, ladenRow(r), v, api.OK)
	}
	holdEval(t, terms{num(0), col(0), col(2), op(api.OpIf)}, ladenRow(r), n(0), api.OK)
	holdEval(t, terms{col(1), col(4), op(api.OpMin)}, ladenRow(r), s(""), api.OK)
	holdEval(t, terms{col(1), col(1), op(api.OpCat)}, ladenRow(r), s("abab"), api.OK)
}

func TestTruth(t *testing.T) { // P8.3
	for _, x := range numbers() {
		for by := range 3 {
			if expr.Truth(laden(n(x), by)) != (x != 0) {
				t.Errorf("Truth of %d", x)
			}
		}
	}
	for _, v := range []api.Val{s(""), s("1"), s("x"), other(odd), other(-1), other(low), other(high), other(256)} {
		for by := range 3 {
			if expr.Truth(v) || expr.Truth(laden(v, by)) {
				t.Errorf("Truth of %s", told(v))
			}
		}
	}
}

func TestCols(t *testing.T) { // P8.3
	for _, k := range []struct {
		l    terms
		want []int
	}{
		{nil, nil},
		{terms{}, nil},
		{terms{num(3), txt("a"), op(api.OpAdd), {Op: -1, Int: 2}, {Op: api.Ops, Int: 2}}, nil},
		{terms{col(0)}, []int{0}},
		{terms{col(5)}, []int{5}},
		{terms{col(2), col(0), op(api.OpAdd), col(2)}, []int{0, 2}},
		{terms{col(1), col(1), col(1)}, []int{1}},
		{terms{col(3), col(1), col(2), col(1), col(3), col(0)}, []int{0, 1, 2, 3}},
		{terms{col(10), col(9), col(2)}, []int{2, 9, 10}},
		{terms{col(-1), col(high), col(low), col(0), col(-1)}, []int{low, -1, 0, high}}, // whether it is an expression is not asked
		{slices.Concat(many(2*api.MaxTerms, col(4)), many(2*api.MaxTerms, col(3))), []int{3, 4}},
	} {
		if got := expr.Cols(k.l); !slices.Equal(got, k.want) {
			t.Errorf("Cols(%s) = %v", told(k.l), got)
		}
	}
	for _, l := range longLists(300) {
		got := expr.Cols(l)
		for i, c := range got {
			if i > 0 && got[i-1] >= c || !slices.ContainsFunc(l, func(t api.Term) bool { return t.Op == api.OpCol && t.Int == c }) {
				t.Fatalf("Cols(%s) = %v", told(l), got)
			}
		}
		for _, x := range l {
			if x.Op == api.OpCol && !slices.Contains(got, x.Int) {
				t.Fatalf("Cols(%s) = %v", told(l), got)
			}
		}
	}
}

// alphabet is steps of all kinds, and such as may not be.
func alphabet() terms {
	l := terms{col(0), col(1), col(3), col(9), num(low), num(-1), num(0), txt("b"), op(-1), op(api.Ops)}
	for o := api.OpAdd; o <= api.OpMax; o++ {
		l = append(l, op(o))
	}
	return l
}

// shortLists are all lists of so many steps of the alphabet.
func shortLists(steps int) []terms {
	all := []terms{nil}
	for range steps {
		var longer []terms
		for _, l := range all {
			for _, t := range alphabet() {
				longer = append(longer, slices.Concat(l, terms{t}))
			}
		}
		all = longer
	}
	return all
}

// dice are numbers that look thrown, the same ones each time.
type dice uint64

func (d *dice) upTo(sides int) int {
	*d = *d*6364136223846793005 + 1442695040888963407
	return int(uint64(*d) >> 33 % uint64(sides))
}

// grown is steps that lay one value of the kind, over columns of the kinds of the row of most tests.
func grown(d *dice, kind, deep int) terms {
	if deep == 0 || d.upTo(6) == 0 {
		return leaf(d, kind)
	}
	some := func(kind int) terms { return grown(d, kind, deep-1) }
	o := d.upTo(api.Ops-api.OpAdd) + api.OpAdd
	takes, lays := sign(o)
	either := []int{api.KindInt, api.KindStr}[d.upTo(2)]
	letters := map[byte]int{'n': api.KindInt, 't': api.KindStr, 'x': either}
	if lays == "x" {
		letters['x'] = kind
	}
	if letters[lays[0]] != kind {
		return grown(d, kind, deep-1)
	}
	var l terms
	for k := range takes {
		l = append(l, some(letters[takes[k]])...)
	}
	return append(l, op(o))
}

func leaf(d *dice, kind int) terms {
	if kind == api.KindStr {
		long := strings.Repeat("w", []int{1, 2, api.MaxText / 2, api.MaxText - 1}[d.upTo(4)])
		return terms{[]api.Term{txt(""), txt("ab"), col(1), col(4), txt("b"), txt(long)}[d.upTo(6)]}
	}
	edges := numbers()
	return terms{[]api.Term{num(edges[d.upTo(len(edges))]), num(d.upTo(9) - 4), col(0), col(2), num(1)}[d.upTo(5)]}
}

// longLists are expressions, and of every third one something is turned, taken or laid between.
func longLists(count int) []terms {
	var d dice = 8
	var all []terms
	for i := range count {
		l := grown(&d, []int{api.KindInt, api.KindStr}[i%2], 1+i%8)
		if i%3 == 2 {
			l = harmed(&d, l)
		}
		all = append(all, l)
	}
	return all
}

func harmed(d *dice, l terms) terms {
	l = slices.Clone(l)
	place := d.upTo(len(l))
	some := alphabet()
	switch step := some[d.upTo(len(some))]; d.upTo(3) {
	case 0:
		l[place] = step
	case 1:
		l = slices.Delete(l, place, place+1)
	default:
		l = slices.Insert(l, place, step)
	}
	return l
}

func rowOfMost() api.Row { return api.Row{n(21), s("ab"), n(-7), other(odd), s("")} }

func TestShortLists(t *testing.T) { // P8.1 to P8.4: as the chapter says them
	for steps := range 4 {
		for _, l := range shortLists(steps) {
			hold(t, l, rowOfMost())
		}
	}
}

func TestLongLists(t *testing.T) { // P8.1 to P8.4
	came := map[api.Errno]int{}
	for _, l := range longLists(30000) {
		hold(t, l, rowOfMost())
		hold(t, l, ladenRow(rowOfMost()))
		_, e := expr.Eval(l, rowOfMost())
		came[e]++
	}
	for _, e := range []api.Errno{api.OK, api.ErrArg, api.ErrMany, api.ErrKind, api.ErrRange, api.ErrForm, api.ErrType, api.ErrOver, api.ErrLong} {
		if came[e] < 20 {
			t.Errorf("only %d lists with the error %d were asked", came[e], int(e))
		}
	}
}

func TestWhatIsEvaluatedHasTheKindThatIsTold(t *testing.T) { // P8.4
	held := 0
	for _, l := range longLists(6000) {
		for _, r := range []api.Row{rowOfMost(), {n(high), s("c"), n(0), s("x"), s("y")}, {n(-3), s(strings.Repeat("k", api.MaxText)), n(low), n(2), s("y")}} {
			kind, typeErr, _ := expr.Type(l, kindsOf(r))
			v, e := expr.Eval(l, r)
			if typeErr != api.OK && e != typeErr || e == api.OK && (typeErr != api.OK || v.Kind != kind) {
				t.Fatalf("%s: the kind %d, %d is told, and %s, %d is evaluated", told(l), kind, int(typeErr), told(v), int(e))
			}
			if typeErr == api.OK && e != api.OK && e != api.ErrOver && e != api.ErrLong {
				t.Fatalf("%s, whose kinds are right, is the error %d", told(l), int(e))
			}
			if e == api.OK {
				held++
			}
		}
	}
	if held < 4000 {
		t.Errorf("only %d were asked", held)
	}
}

// turned is another value of the kind.
func turned(v api.Val, by int) api.Val {
	v.Int = v.Int ^ (by*37 + 1)
	v.Str = strings.Repeat("turned ", by%3) + v.Str + "?"
	return v
}

func TestOtherColumnsPlayNoPart(t *testing.T) { // P8.4
	left := 0
	for i, l := range longLists(6000) {
		r := rowOfMost()
		v, e := expr.Eval(l, r)
		cols := expr.Cols(l)
		for c := range r {
			if !slices.Contains(cols, c) {
				r[c] = turned(r[c], i)
				left++
			}
		}
		holdEval(t, l, r, v, e)
	}
	if left < 8000 {
		t.Errorf("only %d columns were turned", left)
	}
}

func TestEachColumnCounts(t *testing.T) { // P8.4, the other way: what stands in Cols is looked at
	for c, v := range rowOfMost() {
		l := terms{col(c), col(c), op(api.OpMin)}
		r := rowOfMost()
		r[c] = turned(v, 1)
		if got, e := expr.Eval(l, r); e != api.OK || row.Cmp(got, r[c]) != 0 {
			t.Errorf("column %d: %v, %d", c, got, int(e))
		}
	}
}

func roomy[E any](l []E, more ...E) []E {
	return append(slices.Clip(slices.Clone(l)), more...)[:len(l)]
}

// asked calls every function.
func asked(l terms, kinds []int, r api.Row) []any {
	kind, e1, at := expr.Type(l, kinds)
	v, e2 := expr.Eval(l, r)
	return []any{kind, e1, at, v, e2, expr.Truth(v), append([]int{}, expr.Cols(l)...)}
}

func TestWhatIsHandedInIsLeft(t *testing.T) { // the rule of memory
	for _, list := range slices.Concat(shortLists(2), longLists(3000)) {
		l := roomy(ladenTerms(list), op(api.OpNeg), col(2), num(5))
		r := roomy(ladenRow(rowOfMost()), s("the spare"), n(99))
		kinds := roomy(kindsOf(r), api.KindInt, odd)
		wasL, wasR, wasKinds := slices.Clone(l[:cap(l)]), slices.Clone(r[:cap(r)]), slices.Clone(kinds[:cap(kinds)])
		once := asked(l, kinds, r)
		if !slices.Equal(l[:cap(l)], wasL) || !slices.Equal(r[:cap(r)], wasR) || !slices.Equal(kinds[:cap(kinds)], wasKinds) {
			t.Fatalf("%s, its row or its kinds were changed", told(list))
		}
		again := asked(slices.Clip(slices.Clone(l)), slices.Clip(slices.Clone(kinds)), slices.Clip(slices.Clone(r)))
		if !reflect.DeepEqual(once, again) {
			t.Fatalf("of %s the spare room counts", told(list))
		}
	}
}

func TestNothingIsKept(t *testing.T) { // the rule of memory, and from arguments alone
	l := terms{col(0), num(2), op(api.OpMul), col(1), op(api.OpLen), op(api.OpAdd)}
	r, kinds := api.Row{n(21), s("ab")}, []int{api.KindInt, api.KindStr}
	first := asked(l, kinds, r)
	other, otherRow, otherKinds := slices.Clone(l), slices.Clone(r), slices.Clone(kinds)
	clear(l)
	clear(r)
	clear(kinds)
	asked(l, kinds, r)
	expr.Eval(of(api.OpNeg, n(low)), nil)
	expr.Type(many(api.MaxStack+1, num(1)), nil)
	if again := asked(other, otherKinds, otherRow); !reflect.DeepEqual(first, again) {
		t.Errorf("%v, and then %v", first, again)
	}
	if v, e := expr.Eval(other, otherRow); v != n(44) || e != api.OK {
		t.Errorf("%v, %d", v, int(e))
	}
}

func TestColsAreNewMemory(t *testing.T) { // the rule of memory
	for _, l := range longLists(300) {
		first := expr.Cols(l)
		was := slices.Clone(first)
		first = first[:cap(first)]
		for i := range first {
			first[i] = -99
		}
		if second := expr.Cols(l); !slices.Equal(second, was) {
			t.Fatalf("Cols(%s) = %v, then %v", told(l), was, second)
		}
	}
}

func TestNilIsEmpty(t *testing.T) { // the rule of memory
	for _, l := range slices.Concat(shortLists(2), []terms{nil}) {
		one, two := asked(l, nil, nil), asked(l, []int{}, api.Row{})
		if !reflect.DeepEqual(one, two) {
			t.Errorf("%s of nil: %s, of an empty row: %s", told(l), told(one), told(two))
		}
	}
	if !reflect.DeepEqual(asked(nil, nil, nil), asked(terms{}, nil, nil)) {
		t.Error("a list that is nil and one that is empty are told apart")
	}
}

// listOf is a step for each two bytes.
func listOf(text []byte) terms {
	edges := numbers()
	words := append(texts(), strings.Repeat("t", api.MaxText+1))
	var l terms
	for ; len(text) >= 2; text = text[2:] {
		l = append(l, api.Term{Op: int(text[0])%(api.Ops+2) - 1, Int: int(text[1])%7 - 1, Str: words[int(text[1])%len(words)]})
		if last := &l[len(l)-1]; last.Op == api.OpInt {
			last.Int = edges[int(text[1])%len(edges)]
		}
	}
	return l
}

func FuzzSteps(f *testing.F) { // P8.1 to P8.4
	f.Add([]byte{1, 1, 2, 12, 6, 0})
	f.Add([]byte("expressions that are told by any bytes at all"))
	f.Add(slices.Repeat([]byte{2, 20, 4, 0}, 40))
	f.Fuzz(func(t *testing.T, text []byte) {
		l := listOf(text[:min(len(text), 2*api.MaxTerms+2)])
		hold(t, l, rowOfMost())
		hold(t, ladenTerms(l), ladenRow(rowOfMost()))
	})
}

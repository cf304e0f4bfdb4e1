package sheet_test

import (
	"bytes"
	"fmt"
	"math/big"
	"reflect"
	"slices"
	"strconv"
	"strings"
	"testing"

	"runnel/api"
	"runnel/plan"
	"runnel/sheet"
)

// fields are the fields of each type in the order in which the chapter tells them.
func fields(t reflect.Type) []string {
	return strings.Fields(map[string]string{
		"Plan": "Room Outs Nodes",
		"Node": "Kind Ins Kinds Exprs Cols Key N Size Slide",
		"Term": "Op Int Str",
	}[t.Name()])
}

// most is how many things may be in a field, and in each of its things if those are lists.
func most(field string) []int {
	return map[string][]int{"Outs": {8}, "Nodes": {64}, "Ins": {8}, "Kinds": {16}, "Exprs": {16, 64}, "Cols": {16}, "Str": {4096}}[field]
}

// askedNumber cuts a number's digits of base two into groups of seven.
func askedNumber(n *big.Int) []byte {
	digits := n.Text(2)
	digits = strings.Repeat("0", (7-len(digits)%7)%7) + digits
	var b []byte
	for len(digits) > 0 {
		ahead := "1"
		if len(digits) == 7 {
			ahead = "0"
		}
		x, _ := strconv.ParseUint(ahead+digits[:7], 2, 8)
		b, digits = append(b, byte(x)), digits[7:]
	}
	return b
}

// askedInt is a number with a sign: 2n, or -2n - 1.
func askedInt(n int64) []byte {
	x := new(big.Int).Mul(big.NewInt(n), big.NewInt(2))
	if n < 0 {
		x.Neg(x).Sub(x, big.NewInt(1))
	}
	return askedNumber(x)
}

func askedCount(n int) []byte { return askedNumber(big.NewInt(int64(n))) }

func askedText(s string) []byte { return append(askedCount(len(s)), s...) }

// partsOf are the numbers, counts and texts of a thing, each as its bytes.
func partsOf(v reflect.Value) [][]byte {
	var parts [][]byte
	switch v.Kind() {
	case reflect.Int:
		return [][]byte{askedInt(v.Int())}
	case reflect.String:
		return [][]byte{askedText(v.String())}
	case reflect.Slice:
		parts = [][]byte{askedCount(v.Len())}
		for i := range v.Len() {
			parts = append(parts, partsOf(v.Index(i))...)
		}
	case reflect.Struct:
		for _, name := range fields(v.Type()) {
			parts = append(parts, partsOf(v.FieldByName(name))...)
		}
	}
	return parts
}

// askedParts are what a plan's bytes are made of.
func askedParts(p api.Plan) [][]byte {
	return append([][]byte{{'P'}}, partsOf(reflect.ValueOf(p))...)
}

// askedBytes are a plan's bytes, also of one that may not be told.
func askedBytes(p api.Plan) []byte { return slices.Concat(askedParts(p)...) }

// takeNumber takes a number off bytes.
func takeNumber(b []byte) (n *big.Int, rest []byte, ok bool) {
	digits := ""
	for i, x := range b {
		s := fmt.Sprintf("%08b", x)
		digits += s[1:]
		if s[0] == '1' {
			continue
		}
		n, _ = new(big.Int).SetString(digits, 2)
		ok = n.BitLen() <= 64 && bytes.Equal(askedNumber(n), b[:i+1])
		return n, b[i+1:], ok
	}
	return nil, nil, false
}

// takeCount takes one that is at most so many.
func takeCount(b []byte, most int) (count int, rest []byte, ok bool) {
	n, rest, ok := takeNumber(b)
	if !ok || n.Cmp(big.NewInt(int64(most))) > 0 {
		return 0, nil, false
	}
	return int(n.Int64()), rest, true
}

// takeInt takes a number with a sign.
func takeInt(b []byte) (n int64, rest []byte, ok bool) {
	x, rest, ok := takeNumber(b)
	if !ok {
		return 0, nil, false
	}
	if x.Bit(0) == 1 {
		x.Add(x, big.NewInt(1)).Neg(x)
	}
	return new(big.Int).Quo(x, big.NewInt(2)).Int64(), rest, true
}

// take takes a thing off bytes, field by field; most says how many there may be of it.
func take(v reflect.Value, b []byte, bound []int) (rest []byte, ok bool) {
	count := 0
	switch v.Kind() {
	case reflect.Int:
		var n int64
		n, rest, ok = takeInt(b)
		v.SetInt(n)
	case reflect.String:
		if count, rest, ok = takeCount(b, bound[0]); !ok || count > len(rest) {
			return nil, false
		}
		v.SetString(string(rest[:count]))
		rest = rest[count:]
	case reflect.Slice:
		count, rest, ok = takeCount(b, bound[0])
		for i := 0; ok && i < count; i++ {
			one := reflect.New(v.Type().Elem()).Elem()
			rest, ok = take(one, rest, bound[1:])
			v.Set(reflect.Append(v, one))
		}
	case reflect.Struct:
		rest, ok = b, true
		for _, name := range fields(v.Type()) {
			if ok {
				rest, ok = take(v.FieldByName(name), rest, most(name))
			}
		}
	}
	return rest, ok
}

// askedPlan is the plan of bytes, if they are any plan's.
func askedPlan(b []byte) (p api.Plan, ok bool) {
	b, ok = bytes.CutPrefix(b, []byte("P"))
	if !ok {
		return api.Plan{}, false
	}
	rest, ok := take(reflect.ValueOf(&p).Elem(), b, nil)
	if !ok || len(rest) > 0 {
		return api.Plan{}, false
	}
	return p, true
}

// askedFault is the first of all faults of a plan, in the order in which the chapter names them.
func askedFault(p api.Plan) api.Errno {
	var l []api.Errno
	add := func(count, most int, e api.Errno) {
		if count > most {
			l = append(l, e)
		}
	}
	add(len(p.Nodes), 64, api.ErrMany)
	add(len(p.Outs), 8, api.ErrMany)
	for _, n := range p.Nodes {
		add(len(n.Ins), 8, api.ErrMany)
		add(max(len(n.Kinds), len(n.Exprs), len(n.Cols)), 16, api.ErrMany)
		for _, steps := range n.Exprs {
			add(len(steps), 64, api.ErrMany)
		}
		for _, step := range slices.Concat(n.Exprs...) {
			add(len(step.Str), 4096, api.ErrLong)
		}
	}
	return append(l, api.OK)[0]
}

// clone is a plan with the same things in lists of its own.
func clone(p api.Plan) api.Plan {
	p.Nodes, p.Outs = slices.Clone(p.Nodes), slices.Clone(p.Outs)
	for i := range p.Nodes {
		n := &p.Nodes[i]
		n.Ins, n.Kinds, n.Cols, n.Exprs = slices.Clone(n.Ins), slices.Clone(n.Kinds), slices.Clone(n.Cols), slices.Clone(n.Exprs)
		for j := range n.Exprs {
			n.Exprs[j] = slices.Clone(n.Exprs[j])
		}
	}
	return p
}

// walk goes through all that a thing is made of.
func walk(v reflect.Value, see func(v reflect.Value)) {
	see(v)
	switch v.Kind() {
	case reflect.Slice:
		for i := range v.Len() {
			walk(v.Index(i), see)
		}
	case reflect.Struct:
		for i := range v.NumField() {
			walk(v.Field(i), see)
		}
	}
}

// numbersOf are the places of all numbers of a plan.
func numbersOf(p *api.Plan) []*int {
	var l []*int
	walk(reflect.ValueOf(p).Elem(), func(v reflect.Value) {
		if v.Kind() == reflect.Int {
			l = append(l, v.Addr().Interface().(*int))
		}
	})
	return l
}

// textsOf are the places of all texts of a plan.
func textsOf(p *api.Plan) []*string {
	var l []*string
	walk(reflect.ValueOf(p).Elem(), func(v reflect.Value) {
		if v.Kind() == reflect.String {
			l = append(l, v.Addr().Interface().(*string))
		}
	})
	return l
}

// listsOf are all lists of a plan, which may be set.
func listsOf(p *api.Plan) []reflect.Value {
	var l []reflect.Value
	walk(reflect.ValueOf(p).Elem(), func(v reflect.Value) {
		if v.Kind() == reflect.Slice {
			l = append(l, v)
		}
	})
	return l
}

// alike: are they, nil and empty lists alike?
func alike(p, q api.Plan) bool { return reflect.DeepEqual(withoutEmpty(p), withoutEmpty(q)) }

// withoutEmpty is a copy of a plan, with nil for each empty list.
func withoutEmpty(p api.Plan) api.Plan {
	p = clone(p)
	for _, l := range listsOf(&p) {
		if l.Len() == 0 {
			l.Set(reflect.Zero(l.Type()))
		}
	}
	return p
}

// hold holds what is told of a plan against what is asked.
func hold(t *testing.T, p api.Plan) api.Errno {
	t.Helper()
	want := askedFault(p)
	if want == api.OK {
		holdTold(t, brief(p), p, askedBytes(p))
		return want
	}
	holdBad(t, brief(p), p, want)
	holdNoForm(t, "the bytes of a plan that may not be told", askedBytes(p))
	return want
}

// holdBytes holds what is decoded against what is asked: what is told is encoded as the same bytes.
func holdBytes(t *testing.T, b []byte) bool {
	t.Helper()
	want, ok := askedPlan(b)
	if !ok {
		holdNoForm(t, "bytes", b)
		return false
	}
	p, e := sheet.Decode(b)
	if e != api.OK || !alike(p, want) {
		t.Errorf("Decode(%s) = %s, %d, want %s", short(b), brief(p), e, brief(want))
	}
	if again, e := sheet.Encode(p); e != api.OK || !bytes.Equal(again, b) {
		t.Errorf("Decode(%s) is encoded as %s, %d", short(b), short(again), e)
	}
	if !sheet.Same(p, want) || !sheet.Same(want, p) {
		t.Errorf("Decode(%s) is not the same as %s", short(b), brief(want))
	}
	return true
}

// chance tells numbers that follow from one alone: the same ones whenever it is made.
type chance uint64

func (x *chance) below(bound int) int {
	*x = *x*6364136223846793005 + 1442695040888963407
	return int(uint64(*x)>>33) % bound
}

// number is any, mostly a small one.
func (x *chance) number() int {
	switch x.below(8) {
	case 0:
		return []int{low, low + 1, high, high - 1, -65, -64, 63, 64, 8191, 8192}[x.below(10)]
	case 1:
		n := (x.below(1<<31)<<31 | x.below(1<<31)) >> x.below(62)
		return n - 2*n*x.below(2)
	}
	return x.below(40) - 4
}

// count is how many there are, seldom more than may be.
func (x *chance) count(most int) int {
	switch x.below(200) {
	case 0:
		return most + 1
	case 1:
		return most
	case 2:
		return most + x.below(5*most)
	}
	return x.below(min(most, 5) + 1)
}

func (x *chance) numbers(most int) []int {
	l := make([]int, x.count(most))
	for i := range l {
		l[i] = x.number()
	}
	return l
}

// text is some bytes, seldom more than may be.
func (x *chance) text() string {
	if x.below(300) == 0 {
		return strings.Repeat(string(rune(x.below(300))), 2040+x.below(20))
	}
	b := make([]byte, x.below(6))
	for i := range b {
		b[i] = byte(x.below(256))
	}
	return string(b)
}

// plan is any, often one that may be told.
func (x *chance) plan() api.Plan {
	p := api.Plan{Room: x.number(), Outs: x.numbers(8), Nodes: make([]api.Node, x.count(64))}
	for i := range p.Nodes {
		n := api.Node{Kind: x.number(), Ins: x.numbers(8), Kinds: x.numbers(16), Cols: x.numbers(16), Key: x.number(), N: x.number(), Size: x.number(), Slide: x.number()}
		n.Exprs = make([][]api.Term, x.count(16))
		for j := range n.Exprs {
			n.Exprs[j] = make([]api.Term, x.count(64))
			for k := range n.Exprs[j] {
				n.Exprs[j][k] = api.Term{Op: x.number(), Int: x.number(), Str: x.text()}
			}
		}
		p.Nodes[i] = n
	}
	return p
}

func TestDrawnPlans(t *testing.T) { // P17.1 to P17.4: also such as plan.Check refuses
	x := chance(17)
	seen, refused := map[api.Errno]int{}, 0
	for range 6000 {
		p := x.plan()
		seen[hold(t, p)]++
		if e, _ := plan.Check(p); e != api.OK {
			refused++
		}
	}
	if seen[api.OK] < 2000 || seen[api.ErrMany] < 200 || seen[api.ErrLong] < 100 || refused < 2000 {
		t.Error(seen, refused)
	}
}

func TestDrawnPairs(t *testing.T) { // P17.3, P17.4: two are the same just if their bytes are
	x := chance(3)
	same, other := 0, 0
	for range 4000 {
		p := x.plan()
		q := clone(p)
		places := numbersOf(&q)
		for range x.below(3) {
			*places[x.below(len(places))] = x.number()
		}
		if texts := textsOf(&q); len(texts) > 0 && x.below(3) == 0 {
			*texts[x.below(len(texts))] = x.text()
		}
		want := alike(p, q)
		if sheet.Same(p, q) != want || sheet.Same(q, p) != want {
			t.Errorf("Same(%s, %s) is not %v", brief(p), brief(q), want)
		}
		a, e := sheet.Encode(p)
		b, f := sheet.Encode(q)
		if e == api.OK && f == api.OK && bytes.Equal(a, b) != want {
			t.Errorf("the bytes of %s and %s: alike is not %v", brief(p), brief(q), want)
		}
		if want {
			same++
		} else {
			other++
		}
	}
	if same < 500 || other < 500 {
		t.Error(same, other)
	}
}

// spoil changes something of bytes that are its own.
func (x *chance) spoil(b []byte) []byte {
	at := x.below(len(b))
	switch x.below(5) {
	case 0:
		b[at] = byte(x.below(256))
	case 1:
		b[at] ^= 1 << x.below(8)
	case 2:
		b = slices.Delete(b, at, min(len(b), at+1+x.below(3)))
	case 3:
		b = slices.Insert(b, at, byte(x.below(256)))
	case 4:
		other := x.below(len(b))
		b[at], b[other] = b[other], b[at]
	}
	return b
}

func TestDrawnBytes(t *testing.T) { // P17.2, P17.4: bytes that are nearly a plan's, and such as are nothing's
	x := chance(71)
	good, bad := 0, 0
	for range 6000 {
		p := x.plan()
		if len(p.Nodes) > 4 {
			p.Nodes = p.Nodes[:4]
		}
		b := askedBytes(p)
		for range 1 + x.below(2) {
			if len(b) > 0 {
				b = x.spoil(b)
			}
		}
		if holdBytes(t, b) {
			good++
		} else {
			bad++
		}
		b = make([]byte, x.below(30))
		for i := range b {
			b[i] = byte(x.below(4))
		}
		holdBytes(t, append([]byte{80}, b...))
	}
	if good < 500 || bad < 500 {
		t.Error(good, bad)
	}
}

func TestWhatFollows(t *testing.T) { // P17.4: at every short list of bytes behind the first one
	good := 0
	var each func(b []byte, left int)
	each = func(b []byte, left int) {
		if holdBytes(t, b) {
			good++
		}
		if left == 0 {
			return
		}
		for _, x := range []byte{0, 1, 2, 0x7f, 0x80, 0x81, 0xff} {
			each(append(slices.Clip(b), x), left-1)
		}
	}
	each([]byte{80}, 5)
	if good < 50 {
		t.Error(good)
	}
}

func FuzzSheets(f *testing.F) { // P17.2, P17.4
	for _, p := range []api.Plan{{}, {Room: 1, Outs: []int{0}, Nodes: []api.Node{{}}}, everyKind()} {
		f.Add(askedBytes(p))
	}
	f.Add([]byte{})
	f.Add([]byte{80})
	f.Fuzz(func(t *testing.T, b []byte) { holdBytes(t, b) })
}

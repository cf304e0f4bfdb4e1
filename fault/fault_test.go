package fault_test

import (
	"errors"
	"fmt"
	"math"
	"slices"
	"strconv"
	"strings"
	"testing"

	"runnel/api"
	"runnel/fault"
)

// deep is as many parts nested in one another as the document's bound allows.
const deep = 1 << 16

var other = errors.New("other")

// wrapper wraps one error, as others than api.Fail may.
type wrapper struct{ err error }

func (w wrapper) Error() string { return "wrapper" }
func (w wrapper) Unwrap() error { return w.err }

// list wraps several, cannot be held against another by ==, and may have nils.
type list []error

func (l list) Error() string   { return "list" }
func (l list) Unwrap() []error { return l }

// alias answers as a number, though it is none.
type alias struct{ e api.Errno }

func (a alias) Error() string { return "alias" }
func (a alias) Is(target error) bool {
	return target == error(a.e)
}
func (a alias) As(target any) bool {
	p, ok := target.(*api.Errno)
	if ok {
		*p = a.e
	}
	return ok
}

// mask answers as one number and wraps another; it says itself that it is a third.
type mask struct{ as, is, in api.Errno }

func (m mask) Error() string        { return "mask" }
func (m mask) Is(target error) bool { return target == error(m.is) }
func (m mask) As(target any) bool   { return alias{m.as}.As(target) }
func (m mask) Unwrap() error        { return m.in }

// half sets what it is asked for, and says that it is none.
type half struct{}

func (half) Error() string { return "half" }
func (half) As(target any) bool {
	if p, ok := target.(*api.Errno); ok {
		*p = api.ErrLong
	}
	return false
}

// liar says that it is whatever it is asked for, and sets nothing.
type liar struct{}

func (liar) Error() string   { return "liar" }
func (liar) As(any) bool     { return true }
func (liar) Unwrap() []error { return []error{api.ErrRange} }

// touchy panics at whatever it is asked, but for what it wraps.
type touchy struct{ err error }

func (c touchy) Error() string { panic("Error") }
func (c touchy) Is(error) bool { panic("Is") }
func (c touchy) As(any) bool   { panic("As") }
func (c touchy) Unwrap() error { return c.err }

// shut panics when it is asked what it wraps; shutList does so, too.
type shut struct{}

func (shut) Error() string { return "shut" }
func (shut) Unwrap() error { panic("Unwrap") }

type shutList struct{}

func (shutList) Error() string   { return "shutList" }
func (shutList) Unwrap() []error { panic("Unwrap") }

func nums(l ...api.Errno) []api.Errno { return l }
func ops(l ...string) []string        { return l }

// errnos are the numbers that api names, and some that it does not.
func errnos() []api.Errno {
	return nums(api.ErrArg, api.ErrLong, api.ErrMany, api.ErrNone, api.ErrNil, api.ErrForm, api.ErrTime, api.ErrKind, api.ErrRange,
		api.ErrOver, api.ErrType, api.ErrCompacted, api.ErrLoop, api.ErrOpen, api.ErrFailed, 10, -1, math.MaxInt, math.MinInt)
}

func TestNew(t *testing.T) { // P2.1
	if err := fault.New(api.OK); err != nil {
		t.Errorf("New(OK) = %#v", err)
	}
	for _, e := range errnos() {
		if err := fault.New(e); err != error(e) {
			t.Errorf("New(%d) = %#v", e, err)
		}
	}
}

func TestWrap(t *testing.T) { // P2.1
	texts := []string{"", "a", "insert", "\x00\xff", strings.Repeat("long", 5000)}
	for _, op := range texts {
		if err := fault.Wrap(op, nil); err != nil {
			t.Errorf("Wrap(%.9q, nil) = %#v", op, err)
		}
		for _, in := range []error{api.ErrForm, api.OK, other, api.Fail{}, api.Fail{Op: "b", Err: api.ErrTime}, (*api.Fail)(nil)} {
			if err := fault.Wrap(op, in); err != error(api.Fail{Op: op, Err: in}) {
				t.Errorf("Wrap(%.9q, %#v) = %#v", op, in, err)
			}
		}
	}
	f, ok := fault.Wrap("a", list{api.ErrForm}).(api.Fail)
	if l, isList := f.Err.(list); !ok || f.Op != "a" || !isList || len(l) != 1 {
		t.Errorf("Wrap of what cannot be compared = %#v", f)
	}
}

func TestJoin(t *testing.T) { // P2.1
	for _, l := range [][]error{nil, {}, {nil}, {nil, nil, nil}} {
		if err := fault.Join(l...); err != nil {
			t.Errorf("Join(%v) = %#v", l, err)
		}
	}
	one := fault.Wrap("a", api.ErrForm)
	for _, c := range []struct{ in, want []error }{
		{[]error{one}, []error{one}},
		{[]error{nil, one, nil}, []error{one}},
		{[]error{api.ErrArg, one, api.ErrArg}, []error{api.ErrArg, one, api.ErrArg}},
		{[]error{api.OK, nil, other}, []error{api.OK, other}},
	} {
		err := fault.Join(c.in...)
		j, ok := err.(interface{ Unwrap() []error })
		if !ok || !slices.Equal(j.Unwrap(), c.want) {
			t.Errorf("Join(%v) = %#v", c.in, err)
			continue
		}
		if want := errors.Join(c.in...); err.Error() != want.Error() || fmt.Sprintf("%T", err) != fmt.Sprintf("%T", want) {
			t.Errorf("Join(%v) is not as errors.Join's: %#v", c.in, err)
		}
	}
	if fault.Join() != nil {
		t.Error("Join of none is something")
	}
}

func TestJoinNeitherChangesNorKeeps(t *testing.T) { // P2.1, memory
	room := []error{api.ErrArg, nil, api.ErrForm, api.ErrTime, other}
	in := room[:3]
	err := fault.Join(in...)
	if !slices.Equal(room, []error{api.ErrArg, nil, api.ErrForm, api.ErrTime, other}) {
		t.Errorf("what was handed in is changed: %v", room)
	}
	for i := range room {
		room[i] = api.ErrKind
	}
	if got := fault.All(err); !slices.Equal(got, nums(api.ErrArg, api.ErrForm)) {
		t.Errorf("what was handed in is kept: %v", got)
	}
}

// asked is an error and what is told of it.
type asked struct {
	name string
	err  error
	all  []api.Errno
	ops  []string
}

// ordinary are errors as this package makes them.
func ordinary() []asked {
	form := fault.New(api.ErrForm)
	ab := fault.Wrap("a", fault.Wrap("b", form))
	two := fault.Join(fault.New(api.ErrFailed), fault.New(api.ErrOver))
	return []asked{
		{"number", form, nums(api.ErrForm), nil},
		{"one wrap", fault.Wrap("a", form), nums(api.ErrForm), ops("a")},
		{"example 1", ab, nums(api.ErrForm), ops("a", "b")},
		{"four wraps", fault.Wrap("z", fault.Wrap("", ab)), nums(api.ErrForm), ops("z", "", "a", "b")},
		{"the same op twice", fault.Wrap("a", fault.Wrap("a", form)), nums(api.ErrForm), ops("a", "a")},
		{"two", two, nums(api.ErrFailed, api.ErrOver), nil},
		{"two, wrapped", fault.Wrap("step", two), nums(api.ErrFailed, api.ErrOver), ops("step")},
		{"two, wrapped twice", fault.Wrap("x", fault.Wrap("step", two)), nums(api.ErrFailed, api.ErrOver), ops("x", "step")},
		{"wraps joined", fault.Join(fault.Wrap("c", api.ErrTime), ab), nums(api.ErrTime, api.ErrForm), nil},
		{"wraps joined, wrapped", fault.Wrap("d", fault.Join(nil, ab, fault.Wrap("c", api.ErrTime))), nums(api.ErrForm, api.ErrTime), ops("d")},
		{"joins of joins", fault.Join(fault.Join(api.ErrNil, two), fault.Join(fault.Join(ab)), api.ErrArg), nums(api.ErrNil, api.ErrFailed, api.ErrOver, api.ErrForm, api.ErrArg), nil},
		{"wraps and joins in turn", fault.Wrap("a", fault.Join(fault.Wrap("b", fault.Join(api.ErrKind, fault.Wrap("c", two))), form)), nums(api.ErrKind, api.ErrFailed, api.ErrOver, api.ErrForm), ops("a")},
		{"the same number twice", fault.Join(form, ab, form), nums(api.ErrForm, api.ErrForm, api.ErrForm), nil},
		{"numbers of no name", fault.Join(api.Errno(-7), api.Errno(math.MaxInt)), nums(-7, math.MaxInt), nil},
	}
}

// edges are errors that hold nothing, or errors of other kinds.
func edges() []asked {
	form := fault.New(api.ErrForm)
	return []asked{
		{"nil", nil, nil, nil},
		{"other", other, nil, nil},
		{"other, wrapped", fault.Wrap("a", fault.Wrap("b", other)), nil, ops("a", "b")},
		{"others, joined", fault.Join(other, fault.Wrap("a", other)), nil, nil},
		{"a number behind another", fault.Wrap("a", fault.Join(other, form)), nums(api.ErrForm), ops("a")},
		{"OK as an error", api.OK, nums(api.OK), nil},
		{"OK as an error, wrapped", fault.Wrap("a", api.OK), nums(api.OK), ops("a")},
		{"OK ahead of a number", fault.Join(api.OK, form), nums(api.OK, api.ErrForm), nil},
		{"Fail of nothing", api.Fail{}, nil, ops("")},
		{"Fail of nothing, wrapped", fault.Wrap("a", api.Fail{Op: "b"}), nil, ops("a", "b")},
		{"pointer to Fail", &api.Fail{Op: "a", Err: fault.Wrap("b", form)}, nums(api.ErrForm), ops("b")},
		{"nil pointer to Fail", (*api.Fail)(nil), nil, nil},
		{"nil pointer to Fail, wrapped", fault.Wrap("a", (*api.Fail)(nil)), nil, ops("a")},
		{"nil pointer to a number", fault.Wrap("a", (*api.Errno)(nil)), nil, ops("a")},
		{"another kind of wrap within", fault.Wrap("a", wrapper{fault.Wrap("b", form)}), nums(api.ErrForm), ops("a", "b")},
		{"another kind of wrap outside", wrapper{wrapper{fault.Wrap("b", form)}}, nums(api.ErrForm), ops("b")},
		{"a wrap of nothing", wrapper{}, nil, nil},
		{"the library's wrap", fmt.Errorf("x: %w", fault.Wrap("b", form)), nums(api.ErrForm), ops("b")},
		{"the library's wrap of two", fault.Wrap("a", fmt.Errorf("x: %w, %w", fault.Wrap("b", form), api.ErrTime)), nums(api.ErrForm, api.ErrTime), ops("a")},
		{"a list with nils", fault.Wrap("a", list{nil, form, nil, api.ErrTime}), nums(api.ErrForm, api.ErrTime), ops("a")},
		{"a list of nils", list{nil, nil}, nil, nil},
		{"an empty list", fault.Wrap("a", list{}), nil, ops("a")},
	}
}

// strange are errors whose own methods panic or lie: what is no part of them is told still.
func strange() []asked {
	form := fault.New(api.ErrForm)
	return []asked{
		{"as a number", fault.Wrap("a", alias{api.ErrType}), nums(api.ErrType), ops("a")},
		{"set, and false", fault.Wrap("a", half{}), nil, ops("a")},
		{"panics when it is asked", fault.Wrap("a", touchy{}), nil, ops("a")},
		{"panics, with a number in it", fault.Wrap("a", touchy{fault.Wrap("b", form)}), nums(api.ErrForm), ops("a", "b")},
		{"panics ahead of a number", fault.Wrap("a", fault.Join(touchy{}, form)), nums(api.ErrForm), ops("a")},
		{"panics behind a number", fault.Join(form, touchy{}, api.ErrTime), nums(api.ErrForm, api.ErrTime), nil},
		{"panics at what it wraps", fault.Wrap("a", shut{}), nil, ops("a")},
		{"panics at what it wraps, ahead of a number", fault.Join(shut{}, form), nums(api.ErrForm), nil},
		{"panics at what it joins", fault.Wrap("a", shutList{}), nil, ops("a")},
		{"panics at what it joins, ahead of a number", fault.Join(shutList{}, form), nums(api.ErrForm), nil},
		{"nil pointer to Fail, ahead of a number", fault.Join((*api.Fail)(nil), form), nums(api.ErrForm), nil},
	}
}

func checkAsked(t *testing.T, c asked) {
	t.Helper()
	first := api.OK
	if len(c.all) > 0 {
		first = c.all[0]
	}
	for range 2 { // the second time: nothing was changed by the first
		if got := fault.Code(c.err); got != first {
			t.Errorf("%s: Code = %d, not %d", c.name, got, first)
		}
		if got := fault.Ops(c.err); !slices.Equal(got, c.ops) {
			t.Errorf("%s: Ops = %.99q, not %.99q", c.name, got, c.ops)
		}
		if got := fault.All(c.err); !slices.Equal(got, c.all) {
			t.Errorf("%s: All = %v, not %v", c.name, got, c.all)
		}
		for _, e := range append(errnos(), api.OK, -7) {
			if got := fault.Is(c.err, e); got != slices.Contains(c.all, e) {
				t.Errorf("%s: Is(%d) = %v", c.name, e, got)
			}
		}
	}
}

func TestTakenApart(t *testing.T) { // P2.2, P2.3
	for _, l := range [][]asked{ordinary(), edges(), strange()} {
		for _, c := range l {
			checkAsked(t, c)
		}
	}
}

// What holds of an error holds of it wrapped again, with one Op more; and of two of them joined, one behind the other.
func TestWhatFollows(t *testing.T) { // P2.3
	l := append(ordinary(), append(edges(), strange()...)...)
	for _, c := range l {
		if c.err != nil {
			checkAsked(t, asked{"wrapped: " + c.name, fault.Wrap("again", c.err), c.all, append(ops("again"), c.ops...)})
		}
		for _, d := range l {
			all := append(slices.Clone(c.all), d.all...)
			checkAsked(t, asked{"joined: " + c.name + "; " + d.name, fault.Join(c.err, d.err), all, nil})
		}
	}
}

// Is is asked of the library: an error may say itself what it is.
func TestIsAsErrorsIs(t *testing.T) { // P2.2
	if err := fault.Wrap("a", alias{api.ErrType}); !fault.Is(err, api.ErrType) || fault.Is(err, api.ErrOver) {
		t.Error("an error's own Is is not asked")
	}
	for _, e := range append(errnos(), api.OK) {
		if fault.Is(nil, e) || fault.Is(fault.Wrap("a", other), e) {
			t.Errorf("%d is found where there is no number", e)
		}
		if !fault.Is(fault.Wrap("a", e), e) {
			t.Errorf("%d is not found", e)
		}
	}
	if fault.Is(fault.Wrap("a", half{}), api.ErrLong) {
		t.Error("an error's own As is asked by Is")
	}
}

// What is found first, and whether something is, says the library, which asks what wraps, too.
func TestAskedAlongTheWay(t *testing.T) { // P2.2
	err := fault.Wrap("a", fault.Join(mask{as: api.ErrArg, is: api.ErrTime, in: api.ErrForm}, api.ErrKind))
	if got := fault.Code(err); got != api.ErrArg {
		t.Errorf("Code = %d", got)
	}
	if !fault.Is(err, api.ErrTime) || !fault.Is(err, api.ErrForm) || !fault.Is(err, api.ErrKind) || fault.Is(err, api.ErrArg) {
		t.Error("Is is not errors.Is")
	}
}

func TestLiarEnds(t *testing.T) { // no call panics
	err := fault.Wrap("a", liar{})
	fault.Code(err)
	fault.All(err)
	if !fault.Is(err, api.ErrRange) || !slices.Equal(fault.Ops(err), ops("a")) {
		t.Error("what the liar joins is not found")
	}
}

func TestDeepWraps(t *testing.T) { // P2.3
	err := fault.New(api.ErrOpen)
	want := make([]string, deep-1)
	for i := range want {
		want[len(want)-1-i] = strconv.Itoa(i)
		err = fault.Wrap(strconv.Itoa(i), err)
	}
	checkAsked(t, asked{"deep wraps", err, nums(api.ErrOpen), want})
	checkAsked(t, asked{"deep wraps, joined", fault.Join(api.ErrArg, err), nums(api.ErrArg, api.ErrOpen), nil})
}

func TestDeepJoins(t *testing.T) { // P2.3
	err := fault.New(api.ErrArg)
	all := nums(api.ErrArg)
	for i := range deep/2 - 1 {
		e := errnos()[i%9]
		all = append(all, e)
		err = fault.Wrap("j", fault.Join(err, e))
	}
	checkAsked(t, asked{"deep joins", err, all, ops("j")})
}

func TestWideJoin(t *testing.T) { // P2.3
	l := make([]error, deep)
	all := make([]api.Errno, 0, deep)
	for i := range l {
		if i%3 == 0 {
			continue
		}
		e := errnos()[i%7]
		l[i] = fault.Wrap("w", e)
		all = append(all, e)
	}
	checkAsked(t, asked{"wide join", fault.Join(l...), all, nil})
}

func TestAnswersAreNew(t *testing.T) { // memory
	err := fault.Wrap("a", fault.Wrap("b", fault.Wrap("c", fault.Join(api.ErrArg, api.ErrForm, api.ErrTime))))
	o, a := fault.Ops(err), fault.All(err)
	for i := range o[:cap(o)] {
		o[:cap(o)][i] = "changed"
	}
	for i := range a[:cap(a)] {
		a[:cap(a)][i] = api.ErrKind
	}
	checkAsked(t, asked{"after its answers were changed", err, nums(api.ErrArg, api.ErrForm, api.ErrTime), ops("a", "b", "c")})
	for _, x := range o[:cap(o)] {
		if x != "changed" {
			t.Errorf("a later answer came into an earlier one: %q", o[:cap(o)])
		}
	}
	for _, x := range a[:cap(a)] {
		if x != api.ErrKind {
			t.Errorf("a later answer came into an earlier one: %v", a[:cap(a)])
		}
	}
}

// What others join is theirs: it is the same behind the calls, spare room too.
func TestArgumentsAreNotChanged(t *testing.T) { // memory
	room := list{api.ErrArg, nil, fault.Wrap("a", api.ErrForm), api.ErrTime, other}
	was := slices.Clone(room)
	l := room[:3]
	checkAsked(t, asked{"a list with spare room", fault.Wrap("x", l), nums(api.ErrArg, api.ErrForm), ops("x")})
	if !slices.Equal(room, was) {
		t.Errorf("changed to %v", room)
	}
}

// grow makes an error of bytes, one step each, and says beside it what must be told.
func grow(b []byte) asked {
	c := asked{name: fmt.Sprint(b)}
	for _, x := range b {
		e := api.Errno(x >> 3)
		switch x & 7 {
		case 0:
			c.err, c.all, c.ops = fault.New(e), nil, nil
			if e != api.OK {
				c.all = nums(e)
			}
		case 1, 2:
			if c.err != nil {
				c.ops = append(ops(strconv.Itoa(int(e))), c.ops...)
			}
			c.err = fault.Wrap(strconv.Itoa(int(e)), c.err)
		case 3:
			c.err, c.all, c.ops = fault.Join(c.err, e), append(c.all, e), nil
		case 4:
			c.err, c.all, c.ops = fault.Join(e, nil, c.err, other), append(nums(e), c.all...), nil
		case 5:
			c.err = wrapper{c.err}
		case 6:
			c.err, c.all, c.ops = list{c.err, nil, c.err}, append(slices.Clone(c.all), c.all...), nil
		case 7:
			c.err, c.all, c.ops = fault.Join(shut{}, c.err, touchy{}), slices.Clone(c.all), nil
		}
	}
	return c
}

func FuzzTaken(f *testing.F) { // P2.1 to P2.3
	f.Add([]byte{48, 9, 17, 3, 1})
	f.Add([]byte{48, 6, 9, 6, 20, 9, 7, 13, 1})
	f.Add([]byte{0, 1, 5, 1, 3, 1, 7, 1, 4, 6, 1})
	f.Fuzz(func(t *testing.T, b []byte) {
		if len(b) > 12 { // a list doubles what is in it
			b = b[:12]
		}
		checkAsked(t, grow(b))
	})
}

func TestTakenOfManyShapes(t *testing.T) { // P2.1 to P2.3
	x := uint32(1)
	for range 3000 {
		b := make([]byte, 0, 12)
		for range 12 {
			x = x*1664525 + 1013904223
			b = append(b, byte(x>>24))
		}
		checkAsked(t, grow(b[:(x>>16)%13]))
	}
}

package trace_test

import (
	"fmt"
	"math"
	"reflect"
	"slices"
	"strings"
	"testing"
	"unsafe"

	"runnel/api"
	"runnel/front"
	"runnel/moment"
	"runnel/row"
	"runnel/spine"
	"runnel/trace"
	"runnel/zset"
)

const (
	low  = math.MinInt
	high = math.MaxInt

	mostReaders = 64
)

type ups = []api.Up
type times = []api.Time

func n(x int) api.Val    { return api.Val{Kind: api.KindInt, Int: x} }
func s(x string) api.Val { return api.Val{Kind: api.KindStr, Str: x} }

// r is a row of numbers and texts.
func r(values ...any) api.Row {
	var told api.Row
	for _, v := range values {
		switch x := v.(type) {
		case int:
			told = append(told, n(x))
		case string:
			told = append(told, s(x))
		}
	}
	return told
}

func at(epoch, round int) api.Time { return api.Time{Epoch: epoch, Round: round} }

func up(r api.Row, epoch, round, diff int) api.Up {
	return api.Up{Row: r, Time: at(epoch, round), Diff: diff}
}

// one is a change of a row that is one number, at the first time.
func one(x, diff int) api.Up { return up(r(x), 0, 0, diff) }

// line are times of which none is LessEq another one, from one number up to below another; those of one top fit together.
func line(from, to, top int) times {
	var f times
	for i := from; i < to; i++ {
		f = append(f, at(i, top-i))
	}
	return f
}

// told is x as a text that is not too long to be read.
func told(x any) string {
	text := strings.ToValidUTF8(fmt.Sprintf("%+v", x), "?")
	if len(text) > 500 {
		text = text[:500] + " .."
	}
	return text
}

func sameUps(x, y ups) bool {
	return slices.EqualFunc(x, y, func(u, v api.Up) bool {
		return row.Same(u.Row, v.Row) && u.Time == v.Time && u.Diff == v.Diff
	})
}

func sameCounts(x, y []api.Count) bool {
	return slices.EqualFunc(x, y, func(c, d api.Count) bool { return row.Same(c.Row, d.Row) && c.Diff == d.Diff })
}

// dice are numbers by a rule: the same ones at each run.
type dicer struct{ state uint64 }

func dice(seed uint64) *dicer { return &dicer{seed*2654435761 + 88172645463325252} }

// roll is a number from 0 up to below sides.
func (d *dicer) roll(sides int) int {
	d.state ^= d.state << 13
	d.state ^= d.state >> 7
	d.state ^= d.state << 17
	return int(d.state>>33) % sides
}

func isLessEq(x, y api.Time) bool { return x.Epoch <= y.Epoch && x.Round <= y.Round }

// ahead: is a time in advance of a frontier, told by each of its times?
func ahead(f times, t api.Time) bool {
	return slices.ContainsFunc(f, func(u api.Time) bool { return isLessEq(u, t) })
}

// least are the times to which no other one is LessEq, told by each two.
func least(l times) times {
	l = slices.Clone(l)
	slices.SortFunc(l, moment.Order)
	l = slices.Compact(l)
	var told times
	for _, t := range l {
		if !slices.ContainsFunc(l, func(u api.Time) bool { return u != t && isLessEq(u, t) }) {
			told = append(told, t)
		}
	}
	return told
}

// held is a reader as the chapter says it.
type held struct {
	number int
	front  times
}

// pair is a trace, and what the chapter says of it: a spine that gets the same calls, and a list of readers.
type pair struct {
	t     *testing.T
	name  string
	tr    *trace.Trace
	own   *spine.Spine // what the trace told as its spine at first
	twin  *spine.Spine
	since times
	all   ups
	read  []held
	next  int
	// great tells that sums may be too great: then what there is may hang on the order in which it is added.
	great bool
}

func begun(t *testing.T, name string, key int) *pair {
	t.Helper()
	tr, e := trace.New(key)
	if e != api.OK || tr == nil {
		t.Fatalf("%s: trace %v, error %d", name, tr != nil, int(e))
	}
	twin, e := spine.New(key)
	if e != api.OK {
		t.Fatalf("%s: spine: error %d", name, int(e))
	}
	p := &pair{t: t, name: name, tr: tr, own: tr.Spine(), twin: twin, since: times{at(0, 0)}}
	p.hold("new")
	return p
}

// hold asks all that may be asked.
func (p *pair) hold(step string) {
	p.t.Helper()
	name := p.name + ", " + step
	if got := p.tr.Since(); !slices.Equal(got, p.since) {
		p.t.Fatalf("%s: Since is %s, want %s", name, told(got), told(p.since))
	}
	p.holdSpine(name)
	p.holdReaders(name)
	for _, t := range []api.Time{at(0, 0), at(1, 1), at(2, 0), at(0, 3), at(4, 4), at(api.MaxTime, api.MaxTime), at(-1, 0), at(high, high)} {
		p.holdPeek(name, t)
	}
	for _, t := range p.since[:min(len(p.since), 3)] {
		p.holdPeek(name, t)
		p.holdPeek(name, at(t.Epoch-1, t.Round))
		p.holdPeek(name, at(t.Epoch, t.Round-1))
	}
}

// holdSpine holds the trace's spine against the one that got the same calls.
func (p *pair) holdSpine(name string) {
	p.t.Helper()
	own := p.tr.Spine()
	if own == nil || own != p.own {
		p.t.Fatalf("%s: Spine is another one than at first", name)
	}
	if !slices.Equal(own.Since(), p.since) || own.Total() != p.twin.Total() || own.Total() != len(p.all) || own.Still() != p.twin.Still() {
		p.t.Fatalf("%s: Spine's Since %s, Total %d, Still %v; want %s, %d, %v", name, told(own.Since()), own.Total(), own.Still(), told(p.since), len(p.all), p.twin.Still())
	}
	if got, want := own.Ups(), p.twin.Ups(); !sameUps(got, want) {
		p.t.Fatalf("%s: Spine's Ups are %s, want %s", name, told(got), told(want))
	}
	if got, want := len(own.Batches()), len(p.twin.Batches()); got != want {
		p.t.Fatalf("%s: Spine has %d batches, want %d", name, got, want)
	}
}

func (p *pair) holdReaders(name string) {
	p.t.Helper()
	var numbers []int
	for _, x := range p.read {
		numbers = append(numbers, x.number)
		if f, e := p.tr.Reader(x.number); e != api.OK || !slices.Equal(f, x.front) {
			p.t.Fatalf("%s: Reader(%d) is %s, error %d, want %s", name, x.number, told(f), int(e), told(x.front))
		}
	}
	slices.Sort(numbers)
	if got := p.tr.Readers(); !slices.Equal(got, numbers) {
		p.t.Fatalf("%s: Readers are %v, want %v", name, got, numbers)
	}
	for number := -1; number <= p.next+1; number++ {
		if p.place(number) >= 0 {
			continue
		}
		if f, e := p.tr.Reader(number); len(f) != 0 || e != api.ErrNone {
			p.t.Fatalf("%s: Reader(%d) is %s, error %d, want ErrNone", name, number, told(f), int(e))
		}
	}
}

func (p *pair) holdPeek(name string, t api.Time) {
	p.t.Helper()
	got, e := p.tr.Peek(t)
	if !ahead(p.since, t) {
		if len(got) != 0 || e != api.ErrCompacted {
			p.t.Fatalf("%s: Peek(%v): %s, error %d, want ErrCompacted", name, t, told(got), int(e))
		}
		return
	}
	want, wantError := p.twin.At(t)
	if !p.great {
		want, wantError = zset.At(p.all, t)
	}
	if e != wantError || !sameCounts(got, want) {
		p.t.Fatalf("%s: Peek(%v): %s, error %d, want %s, error %d", name, t, told(got), int(e), told(want), int(wantError))
	}
}

// place is where a reader stands in the list, below 0 if there is none.
func (p *pair) place(number int) int {
	return slices.IndexFunc(p.read, func(x held) bool { return x.number == number })
}

// follow is what must come behind each Allow and Close.
func (p *pair) follow() {
	p.t.Helper()
	if len(p.read) == 0 {
		return
	}
	var all times
	for _, x := range p.read {
		all = append(all, x.front...)
	}
	f := least(all)
	if len(f) > api.MaxFront {
		return
	}
	if e := p.twin.Advance(f); e != api.OK {
		p.t.Fatalf("%s: the spine beside it: Advance to %s: error %d", p.name, told(f), int(e))
	}
	p.since = f
}

func (p *pair) insert(l ...api.Up) {
	p.t.Helper()
	was := p.twin.Total()
	want := p.twin.Insert(l)
	if p.twin.Total() > was {
		p.all = append(p.all, l...)
	}
	if e := p.tr.Insert(l); e != want {
		p.t.Fatalf("%s: Insert of %s: error %d, want %d", p.name, told(l), int(e), int(want))
	}
	p.hold("Insert of " + told(l))
}

func (p *pair) work(fuel int) {
	p.t.Helper()
	wantLeft, want := p.twin.Work(fuel)
	if left, e := p.tr.Work(fuel); left != wantLeft || e != want {
		p.t.Fatalf("%s: Work(%d) = %d, error %d; want %d, error %d", p.name, fuel, left, int(e), wantLeft, int(want))
	}
	p.hold(fmt.Sprint("Work(", fuel, ")"))
}

// open is of a frontier that may be.
func (p *pair) open(f ...api.Time) int {
	p.t.Helper()
	number, e := p.tr.Open(f)
	if number != p.next || e != api.OK {
		p.t.Fatalf("%s: Open of %s: %d, error %d, want %d", p.name, told(f), number, int(e), p.next)
	}
	p.read = append(p.read, held{number, slices.Clone(f)})
	p.next++
	p.hold("Open of " + told(f))
	return number
}

// allow is of a frontier that may be.
func (p *pair) allow(number int, f ...api.Time) {
	p.t.Helper()
	if e := p.tr.Allow(number, f); e != api.OK {
		p.t.Fatalf("%s: Allow of %d, %s: error %d", p.name, number, told(f), int(e))
	}
	p.read[p.place(number)].front = slices.Clone(f)
	p.follow()
	p.hold(fmt.Sprint("Allow of ", number, ", ", told(f)))
}

// close is of a reader that there is.
func (p *pair) close(number int) {
	p.t.Helper()
	if e := p.tr.Close(number); e != api.OK {
		p.t.Fatalf("%s: Close of %d: error %d", p.name, number, int(e))
	}
	i := p.place(number)
	p.read = slices.Delete(p.read, i, i+1)
	p.follow()
	p.hold(fmt.Sprint("Close of ", number))
}

// isSince is what Since must tell, as the test says it by hand.
func (p *pair) isSince(step string, want ...api.Time) {
	p.t.Helper()
	if got := p.tr.Since(); !slices.Equal(got, want) {
		p.t.Fatalf("%s, %s: Since is %s, want %s", p.name, step, told(got), told(want))
	}
}

// isRead is what Readers must tell, as the test says it by hand.
func (p *pair) isRead(step string, want ...int) {
	p.t.Helper()
	if got := p.tr.Readers(); !slices.Equal(got, want) {
		p.t.Fatalf("%s, %s: Readers are %v, want %v", p.name, step, got, want)
	}
}

// peeks is what Peek must tell, as the test says it by hand.
func (p *pair) peeks(t api.Time, want ...api.Count) {
	p.t.Helper()
	if got, e := p.tr.Peek(t); e != api.OK || !sameCounts(got, want) {
		p.t.Fatalf("%s: Peek(%v) is %s, error %d, want %s", p.name, t, told(got), int(e), told(want))
	}
}

func (p *pair) isGone(t api.Time) {
	p.t.Helper()
	if got, e := p.tr.Peek(t); e != api.ErrCompacted || len(got) != 0 {
		p.t.Fatalf("%s: Peek(%v) is %s, error %d, want ErrCompacted", p.name, t, told(got), int(e))
	}
}

// refusesOpen, refusesAllow and refusesClose are of what may not be: the error, and nothing has changed.
func (p *pair) refusesOpen(want api.Errno, f ...api.Time) {
	p.t.Helper()
	if number, e := p.tr.Open(f); number != 0 || e != want {
		p.t.Fatalf("%s: Open of %s: %d, error %d, want error %d", p.name, told(f), number, int(e), int(want))
	}
	p.hold("refused Open of " + told(f))
}

func (p *pair) refusesAllow(want api.Errno, number int, f ...api.Time) {
	p.t.Helper()
	if e := p.tr.Allow(number, f); e != want {
		p.t.Fatalf("%s: Allow of %d, %s: error %d, want %d", p.name, number, told(f), int(e), int(want))
	}
	p.hold(fmt.Sprint("refused Allow of ", number, ", ", told(f)))
}

func (p *pair) refusesClose(number int) {
	p.t.Helper()
	if e := p.tr.Close(number); e != api.ErrNone {
		p.t.Fatalf("%s: Close of %d: error %d, want ErrNone", p.name, number, int(e))
	}
	p.hold(fmt.Sprint("refused Close of ", number))
}

func TestLeast(t *testing.T) { // the test's own reckoning, told by hand
	for _, k := range []struct{ l, want times }{
		{nil, nil},
		{times{at(1, 1), at(1, 1)}, times{at(1, 1)}},
		{times{at(2, 0), at(0, 2), at(2, 2)}, times{at(0, 2), at(2, 0)}},
		{times{at(1, 2), at(1, 1), at(2, 1), at(0, 9)}, times{at(0, 9), at(1, 1)}},
	} {
		if got := least(k.l); !slices.Equal(got, k.want) {
			t.Errorf("%v: %v, want %v", k.l, got, k.want)
		}
	}
}

func TestThePagesExample(t *testing.T) { // P13.2: two readers at (0, 0); one allows (5, 0); the other one closes
	for _, first := range []int{0, 1} {
		p := begun(t, "the page's", 0)
		p.isRead("new")
		if a, b := p.open(at(0, 0)), p.open(at(0, 0)); a != 0 || b != 1 {
			t.Fatalf("%d, %d", a, b)
		}
		p.isRead("opened", 0, 1)
		p.allow(first, at(5, 0))
		p.isSince("one has allowed", at(0, 0))
		p.close(1 - first)
		p.isSince("the other one is closed", at(5, 0))
		p.isRead("the other one is closed", first)
	}
}

func TestCallsOfTheSpine(t *testing.T) { // P13.1: Insert, Work, Since, Peek and Spine, told by hand
	p := begun(t, "the spine's", 1)
	p.insert(up(r(1, "a"), 0, 0, 1), up(r(1, "a"), 2, 0, 1), up(r(2), 0, 1, 3))
	p.insert(up(r(1, "a"), 1, 0, -1))
	p.peeks(at(0, 0), api.Count{Row: r(1, "a"), Diff: 1})
	p.peeks(at(1, 0))
	p.peeks(at(0, 5), api.Count{Row: r(1, "a"), Diff: 1}, api.Count{Row: r(2), Diff: 3})
	p.peeks(at(2, 1), api.Count{Row: r(1, "a"), Diff: 1}, api.Count{Row: r(2), Diff: 3})
	if left, e := p.tr.Work(1); left != 0 || e != api.OK {
		t.Fatalf("%d left, error %d", left, int(e))
	}
	p.twin.Work(1)
	p.hold("fuel of 1")
	if left, e := p.tr.Work(100); left != 99 || e != api.OK {
		t.Fatalf("%d left, error %d", left, int(e))
	}
	p.twin.Work(100)
	p.hold("fuel of 100")
	p.isSince("at the end", at(0, 0))
	sp := p.tr.Spine()
	if !sp.Still() || sp.Total() != 4 || len(sp.Run(r(1))) != 3 || len(sp.Run(r(2))) != 1 {
		t.Fatalf("Still %v, Total %d, %s", sp.Still(), sp.Total(), told(sp.Ups()))
	}
}

func TestSpineIsTheTracesOwn(t *testing.T) { // P13.1: what is done to the trace shows in it
	tr, _ := trace.New(1)
	sp := tr.Spine()
	a, _ := tr.Open(times{at(0, 0)})
	for i := range 5 {
		if e := tr.Insert(ups{up(r(i), i, 0, 1)}); e != api.OK || sp.Total() != i+1 || len(sp.Ups()) != i+1 || len(sp.Run(r(i))) != 1 {
			t.Fatalf("error %d, Total %d, %s", int(e), sp.Total(), told(sp.Ups()))
		}
	}
	if e := tr.Allow(a, times{at(9, 9)}); e != api.OK || !slices.Equal(sp.Since(), times{at(9, 9)}) || sp.Still() {
		t.Fatalf("error %d, Since %v", int(e), sp.Since())
	}
	if _, e := tr.Work(high); e != api.OK || !sp.Still() || len(sp.Batches()) != 1 || sp.Ups()[0].Time != at(9, 9) {
		t.Fatalf("error %d, %s", int(e), told(sp.Ups()))
	}
	if sp != tr.Spine() {
		t.Fatal("another spine")
	}
}

func TestEachKey(t *testing.T) { // P13.1: from 0 to MaxCols, and rows that are too short for it
	long := make(api.Row, api.MaxCols)
	for i := range long {
		long[i] = n(i)
	}
	for key := range api.MaxCols + 1 {
		p := begun(t, fmt.Sprint("key ", key), key)
		a := p.open(at(0, 0))
		p.insert(up(long, 0, 0, 1), up(row.Join(long, r(1)), 1, 0, 2))
		p.insert(up(long[:key], 0, 0, 3))
		if got := p.tr.Spine().Run(long[:key]); len(got) != 3 {
			t.Fatalf("key %d: %s", key, told(got))
		}
		p.allow(a, at(1, 1))
		p.work(high)
		if key == 0 {
			continue
		}
		if e := p.tr.Insert(ups{up(long, 0, 0, 1), up(long[:key-1], 0, 0, 1)}); e != api.ErrRange {
			t.Fatalf("key %d: error %d", key, int(e))
		}
		p.hold("a row that is too short")
	}
}

func TestKeysThatMayNotBe(t *testing.T) { // P13.1: the spine's error, and the trace is nil
	for _, key := range []int{-1, -2, low, api.MaxCols + 1, api.MaxCols + 2, high} {
		if tr, e := trace.New(key); tr != nil || e != api.ErrArg {
			t.Errorf("New(%d): %v, error %d", key, tr != nil, int(e))
		}
	}
}

func TestWithoutReaders(t *testing.T) { // P13.2: ErrNone, nothing, and Since stays
	p := begun(t, "without readers", 1)
	p.insert(one(1, 1), up(r(1), 3, 3, 1))
	for _, number := range []int{0, 1, -1, 63, 64, low, high} {
		p.refusesClose(number)
		p.refusesAllow(api.ErrNone, number, at(5, 5))
		p.refusesAllow(api.ErrNone, number)
		p.refusesAllow(api.ErrNone, number, at(0, 0))
		p.refusesAllow(api.ErrNone, number, at(-1, 0))
		if f, e := p.tr.Reader(number); len(f) != 0 || e != api.ErrNone {
			t.Errorf("Reader(%d): %v, error %d", number, f, int(e))
		}
	}
	p.isRead("none")
	p.isSince("none", at(0, 0))
	p.work(high)
	p.isSince("none, worked on", at(0, 0))
	p.peeks(at(0, 0), api.Count{Row: r(1), Diff: 1})
}

func TestOpenDoesNotAdvance(t *testing.T) { // P13.2: at since, and ahead of it
	p := begun(t, "open", 1)
	p.insert(one(1, 1), up(r(1), 3, 3, 1))
	for i, f := range []times{{at(5, 0)}, {at(0, 7), at(3, 3)}, {}, {at(0, 0)}, {at(api.MaxTime, api.MaxTime)}, {at(0, 0)}} {
		if number := p.open(f...); number != i {
			t.Fatalf("number %d", number)
		}
		p.isSince("opened", at(0, 0))
		p.peeks(at(0, 0), api.Count{Row: r(1), Diff: 1})
	}
	p.isRead("opened", 0, 1, 2, 3, 4, 5)
	// The one ahead stays where it is, whoever holds it back, until something is allowed or closed.
	alone := begun(t, "alone", 1)
	a := alone.open(at(5, 0))
	alone.isSince("opened", at(0, 0))
	alone.allow(a, at(5, 0)) // nothing new, and yet the spine follows
	alone.isSince("allowed", at(5, 0))
	b := alone.open(at(7, 7))
	alone.isSince("opened", at(5, 0))
	alone.close(a)
	alone.isSince("closed", at(7, 7))
	alone.close(b)
	alone.isSince("none is left", at(7, 7))
	alone.open(at(8, 8))
	alone.isSince("opened again", at(7, 7))
}

func TestOpenBehindSince(t *testing.T) { // P13.2: ErrTime, where Since is not front.LessEq to it
	for _, k := range []struct {
		since          times
		taken, refused []times
	}{
		{times{at(2, 2)},
			[]times{{at(2, 2)}, {at(2, 3), at(3, 2)}, {at(9, 9)}, {}},
			[]times{{at(0, 0)}, {at(1, 2)}, {at(2, 1)}, {at(1, 9)}, {at(9, 1)}, {at(1, 9), at(2, 2)}, {at(2, 2), at(9, 1)}}},
		{times{at(1, 3), at(3, 1)},
			[]times{{at(1, 3), at(3, 1)}, {at(1, 3)}, {at(3, 1)}, {at(3, 3)}, {at(1, 4), at(2, 3), at(4, 1)}, {}},
			[]times{{at(2, 2)}, {at(1, 2)}, {at(0, 3)}, {at(1, 3), at(2, 2)}, {at(0, 0)}, {at(1, 3), at(9, 0)}}},
		{times{},
			[]times{{}},
			[]times{{at(0, 0)}, {at(5, 5)}, {at(api.MaxTime, api.MaxTime)}}},
	} {
		p := begun(t, "open behind since", 1)
		p.insert(one(1, 1), up(r(1), 3, 3, 1))
		p.allow(p.open(at(0, 0)), k.since...)
		p.isSince("allowed", k.since...)
		for _, f := range k.refused {
			p.refusesOpen(api.ErrTime, f...)
		}
		for i, f := range k.taken {
			if number := p.open(f...); number != i+1 {
				t.Fatalf("number %d: what was refused has taken one", number)
			}
		}
	}
}

// noFrontiers are lists that front.Check refuses, by its errors.
func noFrontiers() map[api.Errno][]times {
	return map[api.Errno][]times{
		api.ErrMany: {line(0, api.MaxFront+1, api.MaxFront), append(line(0, api.MaxFront, api.MaxFront), at(-1, -1)), make(times, api.MaxFront+1)},
		api.ErrTime: {{at(-1, 0)}, {at(0, -1)}, {at(api.MaxTime+1, 0)}, {at(0, api.MaxTime+1)}, {at(low, high)}, {at(9, 9), at(9, 9), at(-1, 0)}},
		api.ErrForm: {{at(9, 9), at(9, 9)}, {at(2, 0), at(0, 2)}, {at(9, 9), at(10, 10)}, {at(0, 2), at(1, 2)}, {at(0, 0), at(0, 0)}},
	}
}

func TestFrontiersThatMayNotBe(t *testing.T) { // P13.2: front.Check's error, ahead of all but ErrNone
	p := begun(t, "refused", 1)
	p.insert(one(1, 1), up(r(1), 3, 3, 1))
	refuse := func() {
		t.Helper()
		for want, list := range noFrontiers() {
			for _, f := range list {
				if e := front.Check(f); e != want {
					t.Fatalf("the test's own list: %s: %d", told(f), int(e))
				}
				p.refusesOpen(want, f...)
				for _, x := range p.read {
					p.refusesAllow(want, x.number, f...)
				}
				p.refusesAllow(api.ErrNone, p.next, f...)
				p.refusesAllow(api.ErrNone, -1, f...)
			}
		}
	}
	refuse()
	a := p.open(at(0, 0))
	refuse()
	b := p.open(at(1, 4), at(4, 1))
	p.allow(a, at(3, 3))
	refuse()
	p.close(a)
	refuse()
	p.allow(b)
	refuse()
	p.close(b)
	refuse()
}

func TestAllowBack(t *testing.T) { // P13.2: ErrTime, where the reader's own is not front.LessEq to it, whatever since is
	p := begun(t, "back", 1)
	p.insert(one(1, 1), up(r(1), 3, 3, 1))
	slow, fast := p.open(at(0, 0)), p.open(at(0, 0))
	for _, k := range []struct {
		own     times
		refused []times
	}{
		{times{at(1, 1)}, []times{{at(0, 0)}, {at(1, 0)}, {at(0, 1)}, {at(0, 5)}, {at(5, 0)}, {at(0, 5), at(1, 1)}, {at(0, 5), at(5, 0)}, {at(1, 1), at(2, 0)}}},
		{times{at(1, 3), at(3, 1)}, []times{{at(1, 1)}, {at(2, 2)}, {at(1, 3), at(2, 2)}, {at(0, 9), at(3, 1)}, {at(1, 3), at(9, 0)}}},
		{times{at(3, 3)}, []times{{at(1, 3), at(3, 1)}, {at(3, 2)}, {at(2, 3)}, {at(2, 9), at(3, 3)}}},
		{times{}, []times{{at(3, 3)}, {at(0, 0)}, {at(api.MaxTime, api.MaxTime)}}},
	} {
		p.allow(fast, k.own...)
		p.isSince("the other one holds it", at(0, 0))
		for _, f := range k.refused {
			p.refusesAllow(api.ErrTime, fast, f...)
		}
		p.allow(fast, k.own...)
	}
	p.allow(slow, at(0, 0))
	p.allow(slow, at(0, 9))
	p.refusesAllow(api.ErrTime, slow, at(0, 0))
}

// orders are all orders of some numbers.
func orders(l []int) [][]int {
	if len(l) == 0 {
		return [][]int{nil}
	}
	var all [][]int
	for i, x := range l {
		for _, rest := range orders(slices.Concat(l[:i], l[i+1:])) {
			all = append(all, append([]int{x}, rest...))
		}
	}
	return all
}

func TestAllowInAnyOrder(t *testing.T) { // P13.2: Since behind each is front.New of the times of all frontiers
	for _, k := range []struct {
		name    string
		goals   []times
		closing bool
		end     times
	}{
		{"one behind the other", []times{{at(1, 1)}, {at(2, 2)}, {at(3, 3)}, {at(4, 4)}}, false, times{at(1, 1)}},
		{"none ahead of another", []times{{at(0, 3)}, {at(1, 2)}, {at(2, 1)}, {at(3, 0)}}, false, times{at(0, 3), at(1, 2), at(2, 1), at(3, 0)}},
		{"of several times", []times{{at(0, 3), at(4, 0)}, {at(1, 2), at(3, 1)}, {at(0, 4), at(2, 2)}}, false, times{at(0, 3), at(1, 2), at(3, 1), at(4, 0)}},
		{"of the same", []times{{at(0, 3), at(3, 0)}, {at(0, 3), at(3, 0)}, {at(0, 3), at(3, 0)}}, false, times{at(0, 3), at(3, 0)}},
		{"one at none", []times{{at(0, 3), at(3, 0)}, {}, {at(1, 1)}}, false, times{at(0, 3), at(1, 1), at(3, 0)}},
		{"all at none", []times{{}, {}, {}}, false, times{}},
		{"closed", []times{{at(1, 1)}, {at(2, 2)}, {at(0, 5), at(5, 0)}, {at(4, 4)}}, true, nil},
	} {
		numbers := []int{0, 1, 2, 3}[:len(k.goals)]
		for _, order := range orders(numbers) {
			p := begun(t, fmt.Sprint(k.name, " ", order), 1)
			p.insert(one(1, 1), up(r(1), 3, 3, 1), up(r(2), 0, 4, 1), up(r(3), 1, 2, 1))
			for _, f := range k.goals {
				if k.closing {
					p.open(f...)
				} else {
					p.open(at(0, 0))
				}
			}
			for i, number := range order {
				if k.closing {
					p.close(number)
					continue
				}
				if i < len(order)-1 {
					p.isSince("the last one holds all back", at(0, 0))
				}
				p.allow(number, k.goals[number]...)
				p.work(i)
			}
			if k.closing { // the last one alone says how far it came
				p.isSince("at the end", k.goals[order[len(order)-1]]...)
			} else {
				p.isSince("at the end", k.end...)
			}
		}
	}
}

func TestTheOneThatHoldsBackCloses(t *testing.T) { // P13.2
	p := begun(t, "the slow one", 1)
	p.insert(one(1, 1), up(r(1), 2, 0, 1), up(r(2), 6, 6, 1))
	slow, left, right := p.open(at(0, 0)), p.open(at(0, 0)), p.open(at(0, 0))
	p.allow(left, at(1, 5))
	p.allow(right, at(5, 1))
	p.isSince("held back", at(0, 0))
	p.peeks(at(1, 0), api.Count{Row: r(1), Diff: 1})
	p.close(slow)
	p.isSince("closed", at(1, 5), at(5, 1))
	p.isGone(at(1, 0))
	p.isGone(at(4, 4))
	p.peeks(at(1, 5), api.Count{Row: r(1), Diff: 1})
	p.peeks(at(5, 1), api.Count{Row: r(1), Diff: 2})
	p.work(high)
	p.peeks(at(1, 5), api.Count{Row: r(1), Diff: 1})
	p.peeks(at(5, 1), api.Count{Row: r(1), Diff: 2})
	p.allow(left, at(5, 5))
	p.isSince("one of two", at(5, 1))
	p.close(right)
	p.isSince("one is left", at(5, 5))
	p.work(high)
	p.peeks(at(5, 5), api.Count{Row: r(1), Diff: 2})
	p.close(left)
	p.isSince("none is left", at(5, 5))
	p.isRead("none is left")
}

func TestTheLastReaderCloses(t *testing.T) { // P13.2: Since stays where it was, not where that reader was
	p := begun(t, "the last one", 1)
	p.insert(one(1, 1), up(r(1), 3, 0, 1))
	a := p.open(at(4, 4)) // ahead of since: nothing has been allowed behind it
	p.close(a)
	p.isSince("closed", at(0, 0))
	p.work(high)
	p.peeks(at(2, 0), api.Count{Row: r(1), Diff: 1})
	b := p.open(at(0, 0))
	p.allow(b, at(2, 0))
	p.close(b)
	p.isSince("allowed, and closed", at(2, 0))
	p.peeks(at(2, 0), api.Count{Row: r(1), Diff: 1})
	p.refusesOpen(api.ErrTime, at(1, 9))
	c := p.open(at(2, 0))
	p.allow(c)
	p.close(c)
	p.isSince("at none, and closed")
}

func TestTheSameFrontierAgain(t *testing.T) { // P13.2: that which stands already is allowed
	p := begun(t, "again", 1)
	p.insert(one(1, 1), up(r(1), 3, 0, 1))
	a, b := p.open(at(0, 0)), p.open(at(0, 0))
	for _, f := range []times{{at(0, 0)}, {at(0, 4), at(2, 2)}, {at(3, 3)}, {}} {
		for range 3 {
			p.allow(a, f...)
			p.allow(b, f...)
			p.isSince("again", f...)
			p.close(p.open(f...))
		}
	}
}

func TestAtNoTime(t *testing.T) { // P13.2: an empty frontier holds nothing back, and leads nowhere else
	p := begun(t, "at no time", 1)
	p.insert(one(1, 1), up(r(1), 3, 0, 1))
	a, b := p.open(at(0, 0)), p.open()
	p.isSince("opened", at(0, 0))
	p.allow(b)
	p.isSince("one needs nothing", at(0, 0))
	p.peeks(at(0, 0), api.Count{Row: r(1), Diff: 1})
	p.allow(a, at(1, 1))
	p.isSince("one needs nothing, the other one less", at(1, 1))
	p.refusesAllow(api.ErrTime, b, at(1, 1))
	p.refusesAllow(api.ErrTime, b, at(api.MaxTime, api.MaxTime))
	c := p.open()
	p.close(b)
	p.isSince("one that needs nothing is closed", at(1, 1))
	p.allow(a)
	p.isSince("none needs anything")
	p.isGone(at(api.MaxTime, api.MaxTime))
	p.isGone(at(high, high))
	p.insert(up(r(4), 0, 0, 1))
	p.work(high)
	p.refusesOpen(api.ErrTime, at(1, 1))
	d := p.open()
	for _, number := range []int{a, c, d} {
		p.close(number)
		p.isSince("closed")
	}
	p.insert(up(r(4), 0, 0, 1))
	p.open()

	// Who needs something may close: what is left needs nothing.
	p = begun(t, "only one at no time is left", 1)
	p.insert(one(1, 1))
	a, b = p.open(at(0, 0)), p.open()
	p.close(a)
	p.isSince("left")
	p.close(b)
	p.isSince("none is left")
}

func TestNumbersNeverComeAgain(t *testing.T) { // P13.2: in the order in which they were opened; Readers rising
	p := begun(t, "numbers", 0)
	for i := range 10 {
		if got := p.open(at(i, 0)); got != i {
			t.Fatalf("number %d, want %d", got, i)
		}
	}
	for _, number := range []int{9, 0, 4, 5, 8} {
		p.close(number)
		p.refusesClose(number)
		p.refusesAllow(api.ErrNone, number, at(50, 0))
		p.refusesAllow(api.ErrNone, number, at(-1, 0))
		if f, e := p.tr.Reader(number); len(f) != 0 || e != api.ErrNone {
			t.Fatalf("%v, error %d", f, int(e))
		}
	}
	p.isRead("some are closed", 1, 2, 3, 6, 7)
	if got := p.open(at(20, 0)); got != 10 {
		t.Fatalf("number %d", got)
	}
	p.refusesOpen(api.ErrTime, at(0, 0))
	p.refusesOpen(api.ErrForm, at(30, 0), at(30, 0))
	if got := p.open(at(20, 0)); got != 11 {
		t.Fatalf("number %d: what was refused has taken one", got)
	}
	p.isRead("more are opened", 1, 2, 3, 6, 7, 10, 11)
	for _, number := range []int{11, 6, 1, 2, 10, 7, 3} {
		p.close(number)
	}
	p.isRead("all are closed")
	if got := p.open(at(20, 0)); got != 12 {
		t.Fatalf("number %d", got)
	}
	p.isRead("one behind all", 12)
	p.close(12)
	for i := range 200 {
		if got := p.open(at(20, 0)); got != 13+i {
			t.Fatalf("number %d, want %d", got, 13+i)
		}
		p.isRead("one at a time", 13+i)
		p.close(13 + i)
	}
}

func TestNumbersOfNoReader(t *testing.T) { // P13.2: ErrNone, also where the frontier may not be
	p := begun(t, "no reader", 1)
	p.insert(one(1, 1))
	a, b := p.open(at(0, 0)), p.open(at(2, 2))
	p.close(b)
	for _, number := range []int{-1, -2, low, b, b + 1, 63, 64, 65, high} {
		for _, f := range []times{{at(0, 0)}, {at(9, 9)}, {}, {at(-1, 0)}, {at(9, 9), at(9, 9)}, line(0, api.MaxFront+1, api.MaxFront)} {
			p.refusesAllow(api.ErrNone, number, f...)
		}
		p.refusesClose(number)
	}
	p.isRead("one is there", a)
}

func TestHowManyReaders(t *testing.T) { // P13.2: 64, and ErrMany behind ErrTime and front.Check's errors
	p := begun(t, "many readers", 1)
	p.insert(one(1, 1), up(r(2), 70, 0, 1))
	for i := range mostReaders {
		p.open(at(i, 1))
		if i == mostReaders-2 && len(p.tr.Readers()) != 63 {
			t.Fatalf("%d readers", len(p.tr.Readers()))
		}
	}
	p.allow(0, at(0, 1))
	p.isSince("64 readers", at(0, 1))
	full := func() {
		t.Helper()
		if got := len(p.tr.Readers()); got != mostReaders {
			t.Fatalf("%d readers", got)
		}
		for range 2 {
			p.refusesOpen(api.ErrMany, at(99, 1))
			p.refusesOpen(api.ErrMany)
			p.refusesOpen(api.ErrMany, p.since...)
			p.refusesOpen(api.ErrTime, at(99, 0))
			p.refusesOpen(api.ErrTime, at(0, 0))
			p.refusesOpen(api.ErrTime, at(-1, 1))
			p.refusesOpen(api.ErrForm, at(99, 1), at(99, 1))
			p.refusesOpen(api.ErrMany, line(0, api.MaxFront+1, api.MaxFront)...)
		}
	}
	full()
	p.close(30)
	if got := p.open(at(80, 1)); got != 64 {
		t.Fatalf("number %d", got)
	}
	full()
	p.close(0)
	p.isSince("the first one is closed", at(1, 1))
	p.close(64)
	p.open(at(80, 1))
	p.open(at(80, 1))
	full()
	for _, number := range p.tr.Readers() {
		p.allow(number, at(90, 1))
	}
	p.isSince("all have allowed", at(90, 1))
	for _, number := range p.tr.Readers() {
		p.close(number)
	}
	for range mostReaders {
		p.open(at(95, 1))
	}
	full()
}

func TestMoreTimesThanAFrontierMayHave(t *testing.T) { // P13.2: the spine stays, the reader's frontier is the new one
	const top = 5000
	for _, k := range []struct {
		name string
		a, b times
		many int
	}{
		{"just as many", line(0, 1000, top), line(1000, 1024, top), 1024},
		{"just as many, some of them shared", line(0, 1000, top), line(500, 1024, top), 1024},
		{"just as many, all of them shared", line(0, 1024, top), line(0, 1024, top), 1024},
		{"some in advance of others", line(0, 1024, top), line(500, 1025, top+1), 1024},
		{"one more", line(0, 1000, top), line(1000, 1025, top), 1025},
		{"one more, some of them shared", line(0, 1000, top), line(3, 1025, top), 1025},
		{"one and the rest", line(0, 1, top), line(1, 1025, top), 1025},
		{"twice as many", line(0, 1024, top), line(1024, 2048, top), 2048},
	} {
		for _, first := range []int{0, 1} {
			p := begun(t, k.name, 1)
			p.insert(one(1, 1), up(r(1), top, 0, 1), up(r(2), 0, top, 1))
			p.open(at(0, 0))
			p.open(at(0, 0))
			goals := []times{k.a, k.b}
			p.allow(first, goals[first]...)
			p.isSince("one of two", at(0, 0))
			p.allow(1-first, goals[1-first]...)
			if got := len(p.tr.Since()); k.many <= api.MaxFront && got != k.many || k.many > api.MaxFront && got != 1 {
				t.Fatalf("%s: Since has %d times", k.name, got)
			}
			for number, goal := range goals {
				if f, e := p.tr.Reader(number); e != api.OK || !slices.Equal(f, goal) {
					t.Fatalf("%s: Reader(%d): %s, error %d", k.name, number, told(f), int(e))
				}
			}
			p.work(2)
			p.peeks(at(0, top), api.Count{Row: r(1), Diff: 1}, api.Count{Row: r(2), Diff: 1})
		}
	}
}

func TestFewEnoughAgain(t *testing.T) { // P13.2: a later Allow or Close, behind which they are
	const top = 5000
	grown := func(name string) *pair {
		p := begun(t, name, 1)
		p.insert(one(1, 1), up(r(1), top, top, 1))
		p.open(at(0, 0))
		p.open(at(0, 0))
		p.allow(0, line(0, 700, top)...)
		p.allow(1, line(700, 1400, top)...)
		p.isSince("too many", at(0, 0))
		return p
	}
	p := grown("one allows more")
	p.allow(1, line(700, 1100, top)...)
	p.isSince("too many yet", at(0, 0))
	p.refusesAllow(api.ErrTime, 1, line(700, 1400, top)...)
	p.allow(1, line(700, 1025, top)...)
	p.isSince("one too many", at(0, 0))
	p.allow(1, line(700, 1024, top)...)
	p.isSince("few enough", line(0, 1024, top)...)

	p = grown("one allows what the other one needs more than")
	p.allow(0, at(top, top))
	p.isSince("few enough", line(700, 1400, top)...)
	p.allow(1, at(top, top))
	p.isSince("one time", at(top, top))

	p = grown("one allows all")
	p.allow(0)
	p.isSince("few enough", line(700, 1400, top)...)

	p = grown("one closes")
	p.close(1)
	p.isSince("few enough", line(0, 700, top)...)

	p = grown("all close, one behind the other")
	p.close(0)
	p.isSince("few enough", line(700, 1400, top)...)
	p.close(1)
	p.isSince("none is left", line(700, 1400, top)...)

	p = grown("another one is opened ahead of all")
	p.open(at(0, 0))
	p.isSince("opened", at(0, 0))
	p.allow(2, at(0, 3))
	p.isSince("all others are in advance of it", at(0, 3))
	p.allow(2, at(3, top))
	p.isSince("it is in advance of others", at(0, 3))
	p.close(0)
	p.isSince("few enough", append(times{at(3, top)}, line(700, 1400, top)...)...)

	p = grown("it is few enough, but nothing is allowed: Open does not advance")
	p.refusesAllow(api.ErrTime, 0, at(0, 0))
	p.refusesAllow(api.ErrNone, 9, at(0, 0))
	p.refusesClose(9)
	p.open(at(0, 1))
	p.isSince("opened", at(0, 0))
	p.close(2)
	p.isSince("closed", at(0, 0))
}

func TestManyReadersOfManyTimes(t *testing.T) { // P13.2: 64 readers, whose times lie between each other's
	const each, top = 40, 1 << 20
	p := begun(t, "many of many", 1)
	p.insert(one(1, 1), up(r(1), top, top, 1))
	for range mostReaders {
		p.open(at(0, 0))
	}
	for number := range mostReaders {
		var f times
		for i := range each {
			f = append(f, at(number+i*mostReaders, top-number-i*mostReaders))
		}
		p.allow(number, f...)
		p.isSince("not all, or too many", at(0, 0))
	}
	for number := range mostReaders {
		if left := (mostReaders - number - 1) * each; left > 0 {
			p.close(number)
			want := left
			if left > api.MaxFront {
				want = 1
			}
			if got := len(p.tr.Since()); got != want {
				t.Fatalf("%d readers are left, Since has %d times, want %d", mostReaders-number-1, got, want)
			}
		}
	}
	p.work(high)
}

func TestPeekAtTheEdgesOfSince(t *testing.T) { // P13.1: just in advance of it, and just not
	p := begun(t, "edges", 1)
	p.insert(one(1, 1), up(r(1), 2, 3, 1), up(r(2), 3, 2, 1))
	a := p.open(at(0, 0))
	for _, k := range []struct {
		since      times
		told, gone times
	}{
		{times{at(0, 0)}, times{at(0, 0), at(0, 9), at(9, 0), at(high, high)}, times{at(-1, 0), at(0, -1), at(low, high), at(high, low)}},
		{times{at(2, 2)}, times{at(2, 2), at(3, 2), at(2, 3), at(api.MaxTime+1, high)}, times{at(1, 2), at(2, 1), at(1, 9), at(9, 1), at(0, 0), at(-1, -1)}},
		{times{at(2, 5), at(5, 2)}, times{at(2, 5), at(5, 2), at(4, 5), at(5, 4)}, times{at(4, 4), at(2, 4), at(1, 5), at(5, 1), at(4, 2), at(2, 2)}},
		{times{}, nil, times{at(0, 0), at(5, 5), at(high, high)}},
	} {
		p.allow(a, k.since...)
		for _, x := range k.told {
			want, _ := zset.At(p.all, x)
			p.peeks(x, want...)
		}
		for _, x := range k.gone {
			p.isGone(x)
		}
		p.hold("asked for")
		p.work(2)
	}
}

func TestChangesThatMayNotBe(t *testing.T) { // P13.1: the spine's errors, and nothing has changed
	good := up(r(1, 2), 0, 0, 1)
	over := ups{up(r(1, 2), 0, 0, high), up(r(1, 2), 0, 0, 1)}
	p := begun(t, "may not be", 2)
	a := p.open(at(0, 0))
	for _, since := range []times{{at(0, 0)}, {at(1, 1)}, {}} {
		p.allow(a, since...)
		for _, k := range []struct {
			l    ups
			want api.Errno
		}{
			{ups{up(r(1), 0, 0, 1)}, api.ErrRange}, {ups{good, up(nil, -1, 0, 1)}, api.ErrRange},
			{ups{up(r(1, 2), -1, 0, 1)}, api.ErrTime}, {ups{good, up(r(1, 2), 0, api.MaxTime+1, 1)}, api.ErrTime}, {append(slices.Clone(over), up(r(1, 2), 0, -1, 1)), api.ErrTime},
			{over, api.ErrOver}, {append(ups{good}, over...), api.ErrOver},
		} {
			if e := p.tr.Insert(k.l); e != k.want {
				t.Fatalf("Insert of %s: error %d, want %d", told(k.l), int(e), int(k.want))
			}
			p.hold("refused")
		}
		p.insert(good)
		p.insert()
		for _, fuel := range []int{0, -1, low} {
			if left, e := p.tr.Work(fuel); left != 0 || e != api.OK {
				t.Fatalf("Work(%d) = %d, error %d", fuel, left, int(e))
			}
		}
		p.hold("without fuel")
		p.work(2)
	}
}

func TestABrokenSpine(t *testing.T) { // P13.1: Insert and Work tell its error; readers come and go
	for _, byInsert := range []bool{false, true} {
		p := begun(t, "broken", 1)
		p.great = true
		a, b := p.open(at(0, 0)), p.open(at(0, 0))
		p.insert(one(1, high), one(2, 1))
		p.insert(one(1, 1), one(3, 1))
		if byInsert {
			p.insert(some(10, 8)...)
		} else {
			p.work(1)
		}
		for range 2 {
			for _, fuel := range []int{0, 1, -1, high} {
				if left, e := p.tr.Work(fuel); left != 0 || e != api.ErrOver {
					t.Fatalf("Work(%d) = %d, error %d", fuel, left, int(e))
				}
			}
			for _, l := range []ups{nil, {one(1, 1)}, {up(nil, 0, 0, 1)}, {up(r(1), -1, 0, 1)}} {
				if e := p.tr.Insert(l); e != api.ErrOver {
					t.Fatalf("Insert of %s: error %d", told(l), int(e))
				}
			}
			p.hold("broken")
			p.allow(a, at(1, 1))
			p.allow(b, at(1, 1))
			p.isSince("broken", at(1, 1))
			p.refusesOpen(api.ErrTime, at(0, 0))
			p.close(p.open(at(2, 2)))
		}
		if c, e := p.tr.Peek(at(1, 1)); len(c) != 0 || e != api.ErrOver {
			t.Fatalf("Peek: %v, error %d", c, int(e))
		}
	}
}

// some are as many changes, each of another row, from a number on.
func some(from, many int) ups {
	var l ups
	for i := range many {
		l = append(l, one(from+i, 1))
	}
	return l
}

func TestNilTrace(t *testing.T) { // P13.1: ErrNil, zeros, nothing
	var tr *trace.Trace
	for _, l := range []ups{nil, {one(1, 1)}, {up(nil, -1, -1, 1)}, {one(1, high), one(1, high)}} {
		if e := tr.Insert(l); e != api.ErrNil {
			t.Errorf("Insert: error %d", int(e))
		}
	}
	for _, fuel := range []int{0, 1, -1, low, high} {
		if left, e := tr.Work(fuel); left != 0 || e != api.ErrNil {
			t.Errorf("Work(%d): %d, error %d", fuel, left, int(e))
		}
	}
	for _, f := range []times{nil, {at(0, 0)}, {at(-1, 0)}, {at(1, 1), at(1, 1)}, line(0, api.MaxFront+1, api.MaxFront)} {
		if number, e := tr.Open(f); number != 0 || e != api.ErrNil {
			t.Errorf("Open: %d, error %d", number, int(e))
		}
		for _, number := range []int{0, 1, -1, low, high} {
			if e := tr.Allow(number, f); e != api.ErrNil {
				t.Errorf("Allow: error %d", int(e))
			}
		}
	}
	for _, number := range []int{0, 1, -1, low, high} {
		if e := tr.Close(number); e != api.ErrNil {
			t.Errorf("Close: error %d", int(e))
		}
		if f, e := tr.Reader(number); len(f) != 0 || e != api.ErrNil {
			t.Errorf("Reader: %v, error %d", f, int(e))
		}
	}
	for _, x := range []api.Time{{}, at(-1, -1), at(high, high)} {
		if c, e := tr.Peek(x); len(c) != 0 || e != api.ErrNil {
			t.Errorf("Peek: %v, error %d", c, int(e))
		}
	}
	if len(tr.Readers()) != 0 || len(tr.Since()) != 0 || tr.Spine() != nil {
		t.Error("a nil trace tells something")
	}
}

func TestWhatNoCallMade(t *testing.T) { // the rule of ends: what it answers is open, but it answers
	tr := new(trace.Trace)
	for range 3 {
		for _, f := range []times{nil, {at(0, 0)}, {at(-1, 0)}, {at(5, 5)}} {
			tr.Open(f)
			tr.Allow(0, f)
			tr.Reader(0)
			tr.Insert(ups{one(1, 1)})
			tr.Work(1)
			tr.Peek(at(5, 5))
			tr.Since()
			tr.Readers()
			tr.Spine()
		}
		tr.Close(0)
	}
}

func TestNoOtherCalls(t *testing.T) { // P13.3: by none of them could the spine be advanced without its readers
	var got []string
	kind := reflect.TypeFor[*trace.Trace]()
	for i := range kind.NumMethod() {
		got = append(got, kind.Method(i).Name)
	}
	want := []string{"Allow", "Close", "Insert", "Open", "Peek", "Reader", "Readers", "Since", "Spine", "Work"}
	if !slices.Equal(got, want) {
		t.Errorf("%v, want %v", got, want)
	}
}

// roomy is a list with spare room behind it, filled by what must stay there.
func roomy[T any](l []T, fill T) []T {
	room := append(make([]T, 0, len(l)+3), l...)
	spare := room[:cap(room)]
	for i := len(l); i < len(spare); i++ {
		spare[i] = fill
	}
	return room
}

// roomyUps are changes whose list and rows have spare room.
func roomyUps(l ups) ups {
	l = roomy(l, up(r("spare"), 7, 7, 7))
	for i := range l {
		l[i].Row = roomy(l[i].Row, s("spare"))
	}
	return l
}

// whole is a list of changes, spare room too, as a text.
func whole(l ups) string {
	var text strings.Builder
	for _, u := range l[:cap(l)] {
		fmt.Fprintln(&text, u.Row[:cap(u.Row)], u.Time, u.Diff)
	}
	return text.String()
}

func spoilRow(l api.Row) {
	_ = append(l, s("spoilt"), s("spoilt"))
	for i := range l[:cap(l)] {
		l[:cap(l)][i] = s("spoilt")
	}
}

func spoilUps(l ups) {
	for _, u := range l {
		spoilRow(u.Row)
	}
	_ = append(l, up(r("spoilt"), -1, -1, -1))
	for i := range l[:cap(l)] {
		l[:cap(l)][i] = up(r("spoilt"), -1, -1, -1)
	}
}

// spoilList writes over a list, and appends to it.
func spoilList[T any](l []T, by T) {
	_ = append(l, by)
	for i := range l[:cap(l)] {
		l[:cap(l)][i] = by
	}
}

// spoil writes over and appends to all that a trace tells.
func (p *pair) spoil() {
	for _, x := range p.read {
		f, _ := p.tr.Reader(x.number)
		spoilList(f, at(-8, -8))
	}
	spoilList(p.tr.Readers(), -8)
	spoilList(p.tr.Since(), at(-8, -8))
	for _, x := range []api.Time{at(0, 0), at(9, 9), at(1<<30, 1<<30)} {
		c, _ := p.tr.Peek(x)
		for _, y := range c {
			spoilRow(y.Row)
		}
		spoilList(c, api.Count{Row: r("spoilt"), Diff: -8})
	}
}

func TestWhatIsHandedInIsNotKept(t *testing.T) { // the rule of memory: neither changed nor kept
	for fuel := range 9 {
		p := begun(t, "handed in", 1)
		p.open(at(0, 0))
		given := ups{up(r(2, "b"), 0, 0, 1), up(r(1, "a"), 1, 0, 1), up(r(1, "a"), 0, 0, 2)}
		for i := range 5 {
			l := roomyUps(given[i%3:])
			was := whole(l)
			p.twin.Insert(given[i%3:])
			p.all = append(p.all, given[i%3:]...)
			if e := p.tr.Insert(l); e != api.OK || whole(l) != was {
				t.Fatalf("error %d, %s has become %s", int(e), was, whole(l))
			}
			spoilUps(l)
			p.hold("changes written over")
			p.work(fuel)

			f := roomy(times{at(i, i+2), at(i+2, i)}, at(77, 77))
			wasTimes := slices.Clone(f[:cap(f)])
			number := p.open(f...)
			p.allow(0, f...)
			if !slices.Equal(f[:cap(f)], wasTimes) {
				t.Fatalf("%v has become %v", wasTimes, f[:cap(f)])
			}
			spoilList(f, at(-8, -8))
			p.hold("frontiers written over")
			p.work(fuel)
			p.close(number)
			p.hold("frontiers written over, and one is closed")
		}
		p.work(high)
	}
}

func TestRefusedIsNotKept(t *testing.T) { // the rule of memory: nor changed, where an error is answered
	p := begun(t, "refused", 1)
	a := p.open(at(0, 0))
	p.allow(a, at(2, 2))
	for _, f := range []times{{at(0, 0)}, {at(9, 9), at(9, 9)}, {at(9, 0), at(0, 9)}, {at(-1, 0)}, line(0, api.MaxFront+1, api.MaxFront)} {
		f = roomy(f, at(77, 77))
		was := slices.Clone(f[:cap(f)])
		_, e := p.tr.Open(f)
		if e == api.OK || p.tr.Allow(a, f) == api.OK || p.tr.Allow(7, f) == api.OK || !slices.Equal(f[:cap(f)], was) {
			t.Errorf("error %d, %s", int(e), told(f))
		}
		p.hold("refused")
	}
	for _, l := range []ups{{one(1, 1), up(nil, 0, 0, 1)}, {one(1, 1), up(r(1), -1, 0, 1)}, {one(1, high), one(1, 1)}} {
		l = roomyUps(l)
		was := whole(l)
		if e := p.tr.Insert(l); e == api.OK || whole(l) != was {
			t.Errorf("error %d, %s", int(e), whole(l))
		}
		p.hold("refused")
	}
}

func TestAnswersWrittenOver(t *testing.T) { // the rule of memory: the next answer tells the same
	for fuel := range 8 {
		p := begun(t, "written over", 1)
		p.open(at(0, 0))
		for i := range 7 {
			p.insert(up(r(i%3, "a"), i, 0, 1), up(r(1), 0, i, 2))
			p.spoil()
			p.hold("spoilt behind Insert")
			number := p.open(at(i, i+4), at(i+4, i))
			p.spoil()
			p.hold("spoilt behind Open")
			p.allow(0, at(i, i+3), at(i+1, i))
			p.spoil()
			p.hold("spoilt behind Allow")
			p.work(fuel)
			p.spoil()
			p.hold("spoilt behind Work")
			if i%2 == 0 {
				p.close(number)
				p.spoil()
				p.hold("spoilt behind Close")
			}
		}
	}
}

// places are where the values of answers lie, each of which may be told but once.
type places map[unsafe.Pointer]string

func takeAll[T any](t *testing.T, p places, name string, l []T) {
	t.Helper()
	for i := range l[:cap(l)] {
		place := unsafe.Pointer(&l[:cap(l)][i])
		if other, there := p[place]; there {
			t.Fatalf("%s lies where %s does", name, other)
		}
		p[place] = name
	}
}

func TestAnswersAreTheirOwn(t *testing.T) { // the rule of memory: no two of them share any
	// All that was told is kept, so that no memory is told twice only because it came to be free.
	var kept []any
	taken := places{}
	p := begun(t, "their own", 1)
	p.open(at(0, 0))
	for i := range 7 {
		l := roomyUps(ups{up(r(1, "a"), i, 0, 1), up(r(2), 0, i, 2)})
		f, g := roomy(times{at(i, i+4), at(i+4, i)}, at(77, 77)), roomy(times{at(i, i+3), at(i+1, i)}, at(77, 77))
		kept = append(kept, l, f, g)
		takeAll(t, taken, "what is inserted", l)
		for _, u := range l {
			takeAll(t, taken, "a row that is inserted", u.Row)
		}
		takeAll(t, taken, "what is opened", f)
		takeAll(t, taken, "what is allowed", g)
		p.insert(l...)
		number := p.open(f...)
		p.allow(0, g...)
		p.work(i)
		for range 2 {
			first, second := mustRead(t, p.tr, 0), mustRead(t, p.tr, number)
			since, numbers := p.tr.Since(), p.tr.Readers()
			counts, e := p.tr.Peek(at(20, 20))
			if e != api.OK || len(counts) == 0 {
				t.Fatalf("Peek: %s, error %d", told(counts), int(e))
			}
			kept = append(kept, first, second, since, numbers, counts)
			takeAll(t, taken, "Reader", first)
			takeAll(t, taken, "another Reader", second)
			takeAll(t, taken, "Since", since)
			takeAll(t, taken, "Readers", numbers)
			takeAll(t, taken, "Peek", counts)
			for _, c := range counts {
				takeAll(t, taken, "Peek's row", c.Row)
			}
		}
	}
	if len(kept) == 0 {
		t.Fatal("nothing was told")
	}
}

func mustRead(t *testing.T, tr *trace.Trace, number int) times {
	t.Helper()
	f, e := tr.Reader(number)
	if e != api.OK {
		t.Fatalf("Reader(%d): error %d", number, int(e))
	}
	return f
}

func TestAnswersStayAsTheyWereTold(t *testing.T) { // the rule of memory: what comes behind does not change them
	p := begun(t, "as they were told", 1)
	p.insert(one(1, 1))
	a := p.open(at(0, 0))
	b := p.open(at(0, 5), at(5, 0))
	f, since, numbers := mustRead(t, p.tr, a), p.tr.Since(), p.tr.Readers()
	other := mustRead(t, p.tr, b)
	p.allow(a, at(4, 4))
	p.allow(b, at(6, 6))
	p.close(b)
	p.open(at(8, 8))
	if !slices.Equal(f, times{at(0, 0)}) || !slices.Equal(since, times{at(0, 0)}) || !slices.Equal(numbers, []int{a, b}) || !slices.Equal(other, times{at(0, 5), at(5, 0)}) {
		t.Errorf("%v, %v, %v, %v", f, since, numbers, other)
	}
}

func TestTwoTraces(t *testing.T) { // the rule of arguments: each is where its own calls have brought it
	first, second := begun(t, "the first one", 1), begun(t, "the second one", 1)
	for i := range 6 {
		l := ups{up(r(i%2), i, 0, 1), up(r(i), 0, i, 2)}
		first.insert(l...)
		first.open(at(i, i))
		second.hold("the other one's Insert and Open")
		second.insert(l[:1]...)
		a, b := second.open(at(i, i)), second.open(at(i, i))
		second.work(2)
		first.hold("the other one's Work and Open")
		second.allow(a, at(i+1, i+1))
		second.close(b)
		second.close(a)
		first.hold("the other one's Allow and Close")
	}
	first.allow(0, at(9, 9))
	second.hold("the other one's Allow")
	first.isRead("at the end", 0, 1, 2, 3, 4, 5)
	second.isRead("at the end")
}

// someRow has at least length values, from a small range.
func (d *dicer) someRow(length int) api.Row {
	var told api.Row
	for range length {
		told = append(told, []api.Val{n(d.roll(4) - 1), s(string(rune('a' + d.roll(2))))}[d.roll(5)/4])
	}
	return told
}

// someUps share rows and times, and some of them are great.
func (d *dicer) someUps(key, many int, great bool) ups {
	var l ups
	for range many {
		diff := d.roll(5) - 2
		if great && d.roll(3) == 0 {
			diff = []int{high, low, high / 2, low / 2}[d.roll(4)]
		}
		l = append(l, up(d.someRow(key+d.roll(2)), d.roll(6), d.roll(6), diff))
	}
	return l
}

// later is a frontier that may come behind one; now and then it is the same, or an empty one.
func (d *dicer) later(f times) times {
	switch d.roll(30) {
	case 0:
		return nil
	case 1, 2:
		return slices.Clone(f)
	}
	var l times
	for range 1 + d.roll(3) {
		l = append(l, at(d.roll(7), d.roll(7)))
	}
	return front.Join(f, front.New(l))
}

// someList may be a frontier, or not.
func (d *dicer) someList() times {
	var l times
	for range d.roll(4) {
		l = append(l, at(d.roll(8)-d.roll(5)/4, d.roll(8)))
	}
	if d.roll(3) > 0 {
		l = least(l)
	}
	return l
}

// holdOpen asks for a reader with any list.
func (p *pair) holdOpen(f times) {
	p.t.Helper()
	e := front.Check(f)
	switch {
	case e != api.OK:
		p.refusesOpen(e, f...)
	case slices.ContainsFunc(f, func(t api.Time) bool { return !ahead(p.since, t) }):
		p.refusesOpen(api.ErrTime, f...)
	case len(p.read) == mostReaders:
		p.refusesOpen(api.ErrMany, f...)
	default:
		p.open(f...)
	}
}

// holdAllow is of any number and list.
func (p *pair) holdAllow(number int, f times) {
	p.t.Helper()
	i, e := p.place(number), front.Check(f)
	switch {
	case i < 0:
		p.refusesAllow(api.ErrNone, number, f...)
	case e != api.OK:
		p.refusesAllow(e, number, f...)
	case slices.ContainsFunc(f, func(t api.Time) bool { return !ahead(p.read[i].front, t) }):
		p.refusesAllow(api.ErrTime, number, f...)
	default:
		p.allow(number, f...)
	}
}

func (p *pair) holdClose(number int) {
	p.t.Helper()
	if p.place(number) < 0 {
		p.refusesClose(number)
		return
	}
	p.close(number)
}

// holdAll asks for every time of a small range that some reader needs.
func (p *pair) holdAll() {
	p.t.Helper()
	for epoch := range 9 {
		for round := range 9 {
			t := at(epoch, round)
			if !slices.ContainsFunc(p.read, func(x held) bool { return ahead(x.front, t) }) {
				continue
			}
			want, wantError := zset.At(p.all, t)
			if got, e := p.tr.Peek(t); e == api.ErrCompacted || !p.great && (e != wantError || !sameCounts(got, want)) {
				p.t.Fatalf("%s: Peek(%v): %s, error %d, want %s, error %d", p.name, t, told(got), int(e), told(want), int(wantError))
			}
		}
	}
}

// turn does one call, which is held against what the chapter says.
func (d *dicer) turn(p *pair, key int) {
	p.t.Helper()
	switch d.roll(12) {
	case 0, 1, 2:
		p.insert(d.someUps(key, d.roll(5), p.great)...)
	case 3, 4:
		p.work(d.roll(20) - 2)
	case 5:
		p.holdOpen(d.someList())
	case 6:
		p.holdOpen(d.later(p.since))
	case 7:
		p.holdAllow(d.roll(p.next+2)-1, d.someList())
	case 8, 9, 10:
		if len(p.read) > 0 {
			x := p.read[d.roll(len(p.read))]
			p.holdAllow(x.number, d.later(x.front))
		}
	default:
		p.holdClose(d.roll(p.next+2) - 1)
	}
}

// run does some calls, and asks in between for all that is needed.
func (d *dicer) run(t *testing.T, key, steps int, great bool) {
	t.Helper()
	p := begun(t, "generated", key)
	p.great = great
	for i := range steps {
		d.turn(p, key)
		if i%4 == 0 {
			p.holdAll()
		}
	}
	p.work(high)
	p.holdAll()
}

func TestGenerated(t *testing.T) { // P13.1 to P13.3: whatever comes
	d := dice(13)
	for i := range 300 {
		d.run(t, d.roll(3), 50, i%4 == 0)
	}
}

func TestEachReaderIsToldRightly(t *testing.T) { // P13.3: whatever the others allow, and whatever fuel comes
	for fuel := range 12 {
		d := dice(uint64(fuel))
		p := begun(t, fmt.Sprint("fuel ", fuel), 1)
		for range 5 {
			p.open(at(0, 0))
		}
		// The first one needs much to the end; the others run ahead of it, close, and are opened again.
		p.allow(0, at(0, 2), at(1, 0))
		moved := 0
		for range 40 {
			p.insert(d.someUps(1, 1+d.roll(4), false)...)
			p.work(fuel)
			x := p.read[1+d.roll(len(p.read)-1)]
			p.allow(x.number, d.later(x.front)...)
			if d.roll(6) == 0 {
				p.close(x.number)
				p.open(d.later(p.since)...)
				moved++
			}
			p.holdAll()
		}
		p.allow(0, at(2, 2))
		p.work(high)
		p.holdAll()
		p.close(0)
		p.work(high)
		p.holdAll()
		if moved == 0 {
			t.Fatal("no reader was closed")
		}
	}
}

func TestLittleIsStored(t *testing.T) { // E5: quiet, there is one batch, and one change at most for each row and time that stands for others
	p := begun(t, "little", 1)
	a, b := p.open(at(0, 0)), p.open(at(0, 0))
	for i := range 50 {
		p.insert(up(r(i%5), i, 0, 1), up(r(i%5), 0, i, 1))
	}
	p.allow(a, at(60, 60))
	p.work(high)
	if got := len(p.tr.Spine().Ups()); got != 99 {
		t.Fatalf("%d changes, held back by one reader", got)
	}
	p.allow(b, at(60, 60))
	p.work(high)
	if sp := p.tr.Spine(); len(sp.Ups()) != 5 || len(sp.Batches()) != 1 || !sp.Still() {
		t.Fatalf("%d changes, %d batches", len(sp.Ups()), len(sp.Batches()))
	}
	p.peeks(at(60, 60), api.Count{Row: r(0), Diff: 20}, api.Count{Row: r(1), Diff: 20}, api.Count{Row: r(2), Diff: 20}, api.Count{Row: r(3), Diff: 20}, api.Count{Row: r(4), Diff: 20})
}

func FuzzTraces(f *testing.F) {
	f.Add(uint64(1), 0, 9, false)
	f.Add(uint64(2), 1, 30, true)
	f.Add(uint64(3), 2, 60, false)
	f.Fuzz(func(t *testing.T, seed uint64, key, steps int, great bool) {
		dice(seed).run(t, key&3, steps&63, great)
	})
}

package merge_test

import (
	"fmt"
	"math"
	"math/big"
	"slices"
	"strings"
	"testing"
	"unsafe"

	"runnel/api"
	"runnel/batch"
	"runnel/front"
	"runnel/merge"
	"runnel/moment"
	"runnel/row"
)

const (
	low  = math.MinInt
	high = math.MaxInt
)

type ups = []api.Up
type times = []api.Time

func n(x int) api.Val    { return api.Val{Kind: api.KindInt, Int: x} }
func s(x string) api.Val { return api.Val{Kind: api.KindStr, Str: x} }

// r is a row of numbers and texts.
func r(values ...any) api.Row {
	var told api.Row
	for _, v := range values {
		switch x := v.(type) {
		case int:
			told = append(told, n(x))
		case string:
			told = append(told, s(x))
		}
	}
	return told
}

func at(epoch, round int) api.Time { return api.Time{Epoch: epoch, Round: round} }

func up(r api.Row, epoch, round, diff int) api.Up {
	return api.Up{Row: r, Time: at(epoch, round), Diff: diff}
}

// one is a change of a row that is one number, at the first time.
func one(x, diff int) api.Up { return up(r(x), 0, 0, diff) }

// of is a batch that must be taken.
func of(t *testing.T, key int, l ...api.Up) *batch.Batch {
	t.Helper()
	b, e := batch.New(key, l, nil)
	if e != api.OK {
		t.Fatalf("batch of %s: error %d", told(l), int(e))
	}
	return b
}

// weighed is one with a weight of its own.
func weighed(t *testing.T, weight int, l ...api.Up) *batch.Batch {
	t.Helper()
	b, e := batch.Weighed(1, l, nil, weight)
	if e != api.OK {
		t.Fatalf("batch of %s: error %d", told(l), int(e))
	}
	return b
}

// told is x as a text that is not too long to be read.
func told(x any) string {
	text := strings.ToValidUTF8(fmt.Sprintf("%+v", x), "?")
	if len(text) > 400 {
		text = text[:400] + " .."
	}
	return text
}

func sameUps(x, y ups) bool {
	return slices.EqualFunc(x, y, func(u, v api.Up) bool {
		return row.Same(u.Row, v.Row) && u.Time == v.Time && u.Diff == v.Diff
	})
}

// tells is all that a batch tells, as a text.
func tells(b *batch.Batch) string {
	var text strings.Builder
	fmt.Fprintln(&text, b.Key(), b.Len(), b.Weight(), b.Keys(), b.Ups(), b.Lower(), b.Upper(), b.Since())
	for i := range b.Keys() {
		fmt.Fprintln(&text, b.Rests(i), b.Run(i))
	}
	return text.String()
}

// dice are numbers by a rule: the same ones at each run.
type dicer struct{ state uint64 }

func dice(seed uint64) *dicer { return &dicer{seed*2654435761 + 88172645463325252} }

// roll is a number from 0 up to below sides.
func (d *dicer) roll(sides int) int {
	d.state ^= d.state << 13
	d.state ^= d.state >> 7
	d.state ^= d.state << 17
	return int(d.state>>33) % sides
}

// stands is what stands for a time, told by each time of since by itself.
func stands(since times, t api.Time) api.Time {
	if len(since) == 0 {
		return t
	}
	least := at(high, high)
	for _, f := range since {
		least = at(min(least.Epoch, max(f.Epoch, t.Epoch)), min(least.Round, max(f.Round, t.Round)))
	}
	return least
}

// sums are those of the changes of one row, by numbers of any length; ok is false where one is too great on its way.
func sums(l ups, since times) (summed ups, ok bool) {
	var told times
	for _, u := range l {
		if t := stands(since, u.Time); !slices.Contains(told, t) {
			told = append(told, t)
		}
	}
	slices.SortFunc(told, moment.Order)
	for _, t := range told {
		sum := new(big.Int)
		for _, u := range l {
			if stands(since, u.Time) != t {
				continue
			}
			if sum.Add(sum, big.NewInt(int64(u.Diff))); !sum.IsInt64() {
				return nil, false
			}
		}
		if sum.Sign() != 0 {
			summed = append(summed, api.Up{Row: l[0].Row, Time: t, Diff: int(sum.Int64())})
		}
	}
	return summed, true
}

// model is a merge as the chapter says it: the rows of both, in order, each with its changes.
type model struct {
	key, weight int
	since       times
	rows        []ups
	at          int
	done        ups
	broken      bool
}

func modelOf(a, b *batch.Batch, since times) *model {
	m := &model{key: a.Key(), weight: a.Weight() + b.Weight(), since: slices.Clone(since)}
	for _, u := range slices.Concat(a.Ups(), b.Ups()) {
		i := slices.IndexFunc(m.rows, func(l ups) bool { return row.Same(l[0].Row, u.Row) })
		if i < 0 {
			i = len(m.rows)
			m.rows = append(m.rows, nil)
		}
		m.rows[i] = append(m.rows[i], u)
	}
	slices.SortFunc(m.rows, func(x, y ups) int { return row.Order(x[0].Row, y[0].Row) })
	return m
}

func (m *model) work(fuel int) (left int, e api.Errno) {
	if fuel < 0 {
		fuel = 0
	}
	for !m.broken && fuel > 0 && m.at < len(m.rows) {
		summed, ok := sums(m.rows[m.at], m.since)
		if !ok {
			m.broken = true
			break
		}
		m.done = append(m.done, summed...)
		fuel = max(0, fuel-len(m.rows[m.at]))
		m.at++
	}
	if m.broken {
		return 0, api.ErrOver
	}
	return fuel, api.OK
}

func (m *model) todo() int {
	many := 0
	for _, l := range m.rows[m.at:] {
		many += len(l)
	}
	return many
}

func (m *model) isDone() bool { return !m.broken && m.at == len(m.rows) }

// batch is what Batch must answer.
func (m *model) batch() (l ups, e api.Errno) {
	switch {
	case m.broken:
		return nil, api.ErrOver
	case !m.isDone():
		return nil, api.ErrTime
	}
	return m.done, api.OK
}

// holdAt asks a merge all that it may be asked, twice: to ask changes nothing.
func holdAt(t *testing.T, name string, g *merge.Merge, m *model) {
	t.Helper()
	for range 2 {
		if got := g.Todo(); got != m.todo() {
			t.Fatalf("%s: Todo is %d, want %d", name, got, m.todo())
		}
		if got := g.Done(); got != m.isDone() {
			t.Fatalf("%s: Done is %v, want %v", name, got, m.isDone())
		}
		want, wantError := m.batch()
		b, e := g.Batch()
		if e != wantError || (b == nil) != (wantError != api.OK) {
			t.Fatalf("%s: Batch: %v, error %d, want error %d", name, b != nil, int(e), int(wantError))
		}
		if b == nil {
			continue
		}
		if !sameUps(b.Ups(), want) {
			t.Fatalf("%s: the batch has %s, want %s", name, told(b.Ups()), told(want))
		}
		if b.Key() != m.key || b.Weight() != m.weight || b.Len() != len(want) || !slices.Equal(b.Since(), m.since) {
			t.Fatalf("%s: Key %d, Weight %d, Len %d, Since %v; want %d, %d, %d, %v", name, b.Key(), b.Weight(), b.Len(), b.Since(), m.key, m.weight, len(want), m.since)
		}
	}
}

// begun is a merge that must be made, and its model.
func begun(t *testing.T, name string, a, b *batch.Batch, since times) (*merge.Merge, *model) {
	t.Helper()
	g, e := merge.New(a, b, since)
	if e != api.OK || g == nil {
		t.Fatalf("%s: merge %v, error %d", name, g != nil, int(e))
	}
	m := modelOf(a, b, since)
	holdAt(t, name+", new", g, m)
	return g, m
}

// work is one bit, asked for behind it.
func work(t *testing.T, name string, g *merge.Merge, m *model, fuel int) {
	t.Helper()
	wantLeft, wantError := m.work(fuel)
	if left, e := g.Work(fuel); left != wantLeft || e != wantError {
		t.Fatalf("%s: Work(%d) = %d, error %d; want %d, error %d", name, fuel, left, int(e), wantLeft, int(wantError))
	}
	holdAt(t, fmt.Sprint(name, ", Work(", fuel, ")"), g, m)
}

// holdAsBatchNew holds what a merge that is done (or broken) answers against batch.New of a's changes and then b's.
func holdAsBatchNew(t *testing.T, name string, g *merge.Merge, a, b *batch.Batch, since times) {
	t.Helper()
	want, wantError := batch.New(a.Key(), slices.Concat(a.Ups(), b.Ups()), since)
	if want != nil {
		want, wantError = batch.Weighed(a.Key(), want.Ups(), since, a.Weight()+b.Weight())
	}
	got, e := g.Batch()
	if e != wantError {
		t.Fatalf("%s: error %d, want %d", name, int(e), int(wantError))
	}
	if tells(got) != tells(want) {
		t.Fatalf("%s: %s, want %s", name, told(tells(got)), told(tells(want)))
	}
}

// holdWays merges in all kinds of bits, of which all must come to the same.
func holdWays(t *testing.T, name string, a, b *batch.Batch, since times) {
	t.Helper()
	all := a.Len() + b.Len()
	for _, fuel := range []int{1, 2, 3, all - 1, all, all + 1, all + 7, high} {
		g, m := begun(t, name, a, b, since)
		for range all + 2 {
			work(t, name, g, m, fuel)
			if fuel <= 0 {
				break
			}
		}
		work(t, name+", behind the end", g, m, high)
		holdAsBatchNew(t, name, g, a, b, since)
	}
}

// page is the two batches of the page's example.
func page(t *testing.T) (a, b *batch.Batch) {
	return of(t, 1, up(r("a"), 0, 0, 1)), of(t, 1, up(r("a"), 0, 0, -1), up(r("b"), 0, 0, 1))
}

func TestThePagesExample(t *testing.T) { // P11.2, P11.3
	a, b := page(t)
	g, e := merge.New(a, b, nil)
	if e != api.OK || g.Todo() != 3 || g.Done() {
		t.Fatalf("error %d, Todo %d", int(e), g.Todo())
	}
	if left, e := g.Work(1); left != 0 || e != api.OK || g.Todo() != 1 || g.Done() {
		t.Fatalf("%d left, error %d, Todo %d", left, int(e), g.Todo())
	}
	if left, e := g.Work(5); left != 4 || e != api.OK || g.Todo() != 0 || !g.Done() {
		t.Fatalf("%d left, error %d, Todo %d", left, int(e), g.Todo())
	}
	c, e := g.Batch()
	if e != api.OK || !sameUps(c.Ups(), ups{up(r("b"), 0, 0, 1)}) || c.Weight() != 3 || c.Len() != 1 || c.Key() != 1 || len(c.Since()) != 0 {
		t.Fatalf("%s, error %d", told(tells(c)), int(e))
	}
}

// pair is two batches with rows that they share and rows that they don't, with several times each: 1 and 5 are in a alone, 2 and "x" in b alone, 3 and 4 in both.
func pair(t *testing.T) (a, b *batch.Batch) {
	a = of(t, 1, up(r(1, "a"), 0, 0, 1), up(r(3, "a"), 0, 0, 2), up(r(3, "a"), 0, 2, 3), up(r(3, "a"), 1, 0, -5), up(r(4), 0, 1, 1), up(r(5), 2, 2, 4), up(r(5), 3, 0, 5))
	b = of(t, 1, up(r(2), 0, 0, 6), up(r(3, "a"), 0, 0, -2), up(r(3, "a"), 0, 3, 7), up(r(3, "a"), 2, 0, 8), up(r(4), 0, 1, -1), up(r(4), 1, 1, 9), up(r("x"), 0, 0, 10))
	return a, b
}

func TestStepByStep(t *testing.T) { // P11.2, P11.3: told by hand, row by row
	a, b := pair(t)
	for _, k := range []struct {
		name  string
		fuels []int
		lefts []int
		todos []int
	}{
		{"1 again and again", []int{1, 1, 1, 1, 1, 1, 1}, []int{0, 0, 0, 0, 0, 0, 1}, []int{13, 12, 6, 3, 1, 0, 0}},
		{"just as many as a row has", []int{1, 1, 6, 3, 2, 1}, []int{0, 0, 0, 0, 0, 0}, []int{13, 12, 6, 3, 1, 0}},
		{"one less than a row has", []int{1, 1, 5, 2, 1, 1}, []int{0, 0, 0, 0, 0, 0}, []int{13, 12, 6, 3, 1, 0}},
		{"two rows, and one of the third", []int{3, 4, 2}, []int{0, 0, 1}, []int{6, 1, 0}},
		{"more than all", []int{20, 20}, []int{6, 20}, []int{0, 0}},
		{"all", []int{14, 1}, []int{0, 1}, []int{0, 0}},
		{"all but one", []int{13, 2}, []int{0, 1}, []int{1, 0}},
		{"nothing between", []int{0, 8, -1, 0, 7, low, 3, -3}, []int{0, 0, 0, 0, 1, 0, 3, 0}, []int{14, 6, 6, 6, 0, 0, 0, 0}},
		{"the greatest", []int{high, high}, []int{high - 14, high}, []int{0, 0}},
	} {
		g, m := begun(t, k.name, a, b, nil)
		for i, fuel := range k.fuels {
			left, e := g.Work(fuel)
			if left != k.lefts[i] || e != api.OK || g.Todo() != k.todos[i] || g.Done() != (k.todos[i] == 0) {
				t.Fatalf("%s: Work(%d) = %d, error %d, Todo %d; want %d, Todo %d", k.name, fuel, left, int(e), g.Todo(), k.lefts[i], k.todos[i])
			}
			m.work(fuel)
			holdAt(t, k.name, g, m)
		}
		holdAsBatchNew(t, k.name, g, a, b, nil)
		c, _ := g.Batch()
		if !sameUps(c.Ups(), ups{
			up(r(1, "a"), 0, 0, 1), up(r(2), 0, 0, 6), up(r(3, "a"), 0, 2, 3), up(r(3, "a"), 0, 3, 7), up(r(3, "a"), 1, 0, -5), up(r(3, "a"), 2, 0, 8),
			up(r(4), 1, 1, 9), up(r(5), 2, 2, 4), up(r(5), 3, 0, 5), up(r("x"), 0, 0, 10),
		}) {
			t.Fatalf("%s: %s", k.name, told(c.Ups()))
		}
	}
}

func TestSince(t *testing.T) { // P11.2, P11.3: times that come to stand for one another; told by hand
	a, b := pair(t)
	for _, k := range []struct {
		since times
		want  ups
	}{
		{times{at(0, 0)}, ups{
			up(r(1, "a"), 0, 0, 1), up(r(2), 0, 0, 6), up(r(3, "a"), 0, 2, 3), up(r(3, "a"), 0, 3, 7), up(r(3, "a"), 1, 0, -5), up(r(3, "a"), 2, 0, 8),
			up(r(4), 1, 1, 9), up(r(5), 2, 2, 4), up(r(5), 3, 0, 5), up(r("x"), 0, 0, 10),
		}},
		{times{at(1, 0)}, ups{ // of (3 a): 2 - 5 - 2 at (1, 0)
			up(r(1, "a"), 1, 0, 1), up(r(2), 1, 0, 6), up(r(3, "a"), 1, 0, -5), up(r(3, "a"), 1, 2, 3), up(r(3, "a"), 1, 3, 7), up(r(3, "a"), 2, 0, 8),
			up(r(4), 1, 1, 9), up(r(5), 2, 2, 4), up(r(5), 3, 0, 5), up(r("x"), 1, 0, 10),
		}},
		{times{at(2, 3)}, ups{
			up(r(1, "a"), 2, 3, 1), up(r(2), 2, 3, 6), up(r(3, "a"), 2, 3, 13), up(r(4), 2, 3, 9), up(r(5), 2, 3, 4), up(r(5), 3, 3, 5), up(r("x"), 2, 3, 10),
		}},
		{times{at(0, 3), at(2, 0)}, ups{ // (0, 2) stands as (0, 2): joined (0, 3) and (2, 2), they meet there
			up(r(1, "a"), 0, 0, 1), up(r(2), 0, 0, 6), up(r(3, "a"), 0, 2, 3), up(r(3, "a"), 0, 3, 7), up(r(3, "a"), 1, 0, -5), up(r(3, "a"), 2, 0, 8),
			up(r(4), 1, 1, 9), up(r(5), 2, 2, 4), up(r(5), 3, 0, 5), up(r("x"), 0, 0, 10),
		}},
		{times{at(1, 4), at(3, 2)}, ups{ // what is least of both is (1, 2)
			up(r(1, "a"), 1, 2, 1), up(r(2), 1, 2, 6), up(r(3, "a"), 1, 2, -2), up(r(3, "a"), 1, 3, 7), up(r(3, "a"), 2, 2, 8),
			up(r(4), 1, 2, 9), up(r(5), 2, 2, 4), up(r(5), 3, 2, 5), up(r("x"), 1, 2, 10),
		}},
	} {
		g, e := merge.New(a, b, k.since)
		if e != api.OK {
			t.Fatalf("%v: error %d", k.since, int(e))
		}
		if left, e := g.Work(14); left != 0 || e != api.OK || !g.Done() {
			t.Fatalf("%v: %d left, error %d", k.since, left, int(e))
		}
		c, e := g.Batch()
		if e != api.OK || !sameUps(c.Ups(), k.want) || !slices.Equal(c.Since(), k.since) || c.Weight() != 14 || c.Key() != 1 {
			t.Fatalf("%v: %s, error %d, want %s", k.since, told(tells(c)), int(e), told(k.want))
		}
		holdWays(t, fmt.Sprint(k.since), a, b, k.since)
	}
}

func TestTimesThatCancelOut(t *testing.T) { // P11.2: within a, within b, and between them
	a := of(t, 1, up(r(1), 0, 0, 3), up(r(1), 1, 0, -3), up(r(2), 0, 0, 1), up(r(4), 0, 1, 1))
	b := of(t, 1, up(r(2), 1, 0, -1), up(r(3), 0, 5, 2), up(r(3), 1, 0, -2), up(r(4), 1, 0, 1))
	for _, k := range []struct {
		since times
		want  ups
	}{
		{nil, slices.Concat(ups{up(r(1), 0, 0, 3), up(r(1), 1, 0, -3), up(r(2), 0, 0, 1), up(r(2), 1, 0, -1)}, ups{up(r(3), 0, 5, 2), up(r(3), 1, 0, -2), up(r(4), 0, 1, 1), up(r(4), 1, 0, 1)})},
		{times{at(1, 0)}, ups{up(r(3), 1, 0, -2), up(r(3), 1, 5, 2), up(r(4), 1, 0, 1), up(r(4), 1, 1, 1)}},
		{times{at(1, 5)}, ups{up(r(4), 1, 5, 2)}},
	} {
		g, m := begun(t, "cancel out", a, b, k.since)
		for range 5 {
			work(t, "cancel out", g, m, 1)
		}
		if c, e := g.Batch(); e != api.OK || !sameUps(c.Ups(), k.want) || c.Weight() != 8 {
			t.Fatalf("%v: %s, error %d", k.since, told(tells(c)), int(e))
		}
		holdWays(t, "cancel out", a, b, k.since)
	}
}

func TestBatchesThatHaveASince(t *testing.T) { // P11.3: since is the merge's own
	l := ups{up(r(1), 0, 0, 1), up(r(1), 2, 0, 2), up(r(2), 0, 3, 3)}
	a, e := batch.New(1, l, times{at(1, 0)})
	if e != api.OK {
		t.Fatal(int(e))
	}
	b, e := batch.New(1, l, times{at(0, 2), at(2, 0)})
	if e != api.OK {
		t.Fatal(int(e))
	}
	for _, since := range []times{nil, {at(0, 0)}, {at(1, 1)}, {at(3, 3)}, {at(0, 4), at(3, 1)}} {
		holdWays(t, "batches with since", a, b, since)
		holdWays(t, "batches with since", b, a, since)
	}
}

func TestWeight(t *testing.T) { // P11.3: that of a and b together, whatever their Len
	l, k := ups{one(1, 1), one(2, 1)}, ups{one(2, -1), one(3, 1)}
	for _, c := range []struct {
		a, b *batch.Batch
		want int
	}{
		{of(t, 1, l...), of(t, 1, k...), 4},
		{of(t, 1, one(1, 1), one(1, 1), one(1, -2)), of(t, 1, k...), 5},
		{weighed(t, 0, l...), weighed(t, 0, k...), 0},
		{weighed(t, 100, l...), of(t, 1, k...), 102},
		{of(t, 1, l...), weighed(t, 7, k...), 9},
		{weighed(t, 100, l...), weighed(t, 7, k...), 107},
		{weighed(t, 5), weighed(t, 6), 11},
		{weighed(t, high-2), of(t, 1, k...), high},
		{weighed(t, high), weighed(t, 0), high},
	} {
		g, m := begun(t, "weight", c.a, c.b, nil)
		work(t, "weight", g, m, 4)
		if got, e := g.Batch(); e != api.OK || got.Weight() != c.want {
			t.Errorf("Weight %d, error %d, want %d", got.Weight(), int(e), c.want)
		}
	}
}

func TestWeightsThatAreTooGreat(t *testing.T) { // P11.3: no number is that of both together: what batch.Weighed tells of it
	for _, k := range [][2]int{{high, 1}, {1, high}, {high, high}, {high/2 + 1, high/2 + 1}} {
		g, e := merge.New(weighed(t, k[0], one(1, 1)), weighed(t, k[1], one(2, 1)), nil)
		if e != api.OK {
			t.Fatal(int(e))
		}
		if b, e := g.Batch(); b != nil || e != api.ErrTime {
			t.Errorf("ahead of the end: %v, error %d", b != nil, int(e))
		}
		if left, e := g.Work(3); left != 1 || e != api.OK || !g.Done() {
			t.Errorf("%d left, error %d", left, int(e))
		}
		if b, e := g.Batch(); b != nil || e != api.ErrArg {
			t.Errorf("%v, error %d", b != nil, int(e))
		}
	}
}

func TestEmptyBatches(t *testing.T) { // P11.3: both empty: done at once; one empty
	empty, cancelled := of(t, 1), of(t, 1, one(1, 1), one(1, -1))
	a, _ := pair(t)
	for _, since := range []times{nil, {at(1, 1)}} {
		for _, b := range []*batch.Batch{empty, cancelled} {
			g, m := begun(t, "both empty", empty, b, since)
			if !g.Done() || g.Todo() != 0 {
				t.Fatalf("two empty batches are not merged at once: Todo %d", g.Todo())
			}
			holdAsBatchNew(t, "both empty", g, empty, b, since)
			for _, fuel := range []int{0, 5, -1, high, low} {
				work(t, "both empty", g, m, fuel)
			}
			holdWays(t, "both empty", empty, b, since)
			holdWays(t, "the first one empty", b, a, since)
			holdWays(t, "the second one empty", a, b, since)
		}
	}
}

func TestFuelThatIsNone(t *testing.T) { // P11.2: 0 and below do nothing, and nothing is left
	a, b := pair(t)
	for _, fuel := range []int{0, -1, -14, low + 1, low} {
		g, m := begun(t, "none", a, b, nil)
		for range 3 {
			work(t, "none", g, m, fuel)
			if left, e := g.Work(fuel); left != 0 || e != api.OK || g.Todo() != 14 {
				t.Fatalf("Work(%d): %d left, error %d, Todo %d", fuel, left, int(e), g.Todo())
			}
		}
		work(t, "none", g, m, 3)
		work(t, "none", g, m, fuel)
		work(t, "none", g, m, high)
		if left, e := g.Work(fuel); left != 0 || e != api.OK || !g.Done() {
			t.Fatalf("Work(%d) behind the end: %d left, error %d", fuel, left, int(e))
		}
	}
}

func TestWorkBehindTheEnd(t *testing.T) { // P11.2: all of the fuel is left
	a, b := pair(t)
	g, m := begun(t, "behind the end", a, b, nil)
	work(t, "behind the end", g, m, 14)
	for _, fuel := range []int{1, 2, 14, 1000, high - 1, high} {
		if left, e := g.Work(fuel); left != fuel || e != api.OK || !g.Done() || g.Todo() != 0 {
			t.Fatalf("Work(%d): %d left, error %d", fuel, left, int(e))
		}
		holdAt(t, "behind the end", g, m)
	}
}

func TestTheEmptyKey(t *testing.T) { // P11.1, P11.3: key 0, and rows without a value
	a := of(t, 0, up(nil, 0, 0, 1), up(r(1), 0, 0, 2), up(r(1, 2), 0, 0, 3))
	b := of(t, 0, up(nil, 0, 0, -1), up(nil, 1, 0, 4), up(r(1), 0, 0, 5), up(r("z"), 0, 0, 6))
	for _, since := range []times{nil, {at(1, 0)}} {
		holdWays(t, "key 0", a, b, since)
		holdWays(t, "key 0", b, a, since)
		holdWays(t, "key 0 and an empty one", a, of(t, 0), since)
	}
	g, m := begun(t, "key 0", a, b, nil)
	work(t, "key 0", g, m, 1)
	if g.Todo() != 4 {
		t.Errorf("the row without a value comes first: Todo %d", g.Todo())
	}
	work(t, "key 0", g, m, 9)
	if c, e := g.Batch(); e != api.OK || c.Key() != 0 || !sameUps(c.Ups(), ups{up(nil, 1, 0, 4), up(r(1), 0, 0, 7), up(r(1, 2), 0, 0, 3), up(r("z"), 0, 0, 6)}) {
		t.Errorf("%s, error %d", told(tells(c)), int(e))
	}
}

func TestEachKeyNumber(t *testing.T) { // P11.1, P11.3
	long := make(api.Row, api.MaxCols)
	for i := range long {
		long[i] = n(i)
	}
	for key := range api.MaxCols + 1 {
		a := of(t, key, up(long, 0, 0, 1), up(row.Join(long, r(1)), 0, 0, 2))
		b := of(t, key, up(long, 0, 0, 3), up(row.Join(long, r(0)), 0, 0, 4))
		holdWays(t, fmt.Sprint("key ", key), a, b, nil)
		holdWays(t, fmt.Sprint("key ", key), a, of(t, key), times{at(1, 1)})
	}
}

func TestRowsThatComeToNothing(t *testing.T) { // P11.2, P11.3: they are done all the same
	a := of(t, 1, one(1, 5), one(2, -7), one(3, high), up(r(4), 0, 1, 1))
	b := of(t, 1, one(1, -5), one(2, 7), one(3, -high), up(r(4), 0, 1, -1))
	g, m := begun(t, "nothing", a, b, nil)
	for i := range 4 {
		if g.Todo() != 8-2*i {
			t.Fatalf("Todo %d behind %d rows", g.Todo(), i)
		}
		work(t, "nothing", g, m, 1)
	}
	c, e := g.Batch()
	if e != api.OK || c.Len() != 0 || c.Weight() != 8 || len(c.Keys()) != 0 || !slices.Equal(c.Upper(), times{at(0, 0)}) {
		t.Errorf("%s, error %d", told(tells(c)), int(e))
	}
	holdWays(t, "nothing", a, b, nil)
	holdWays(t, "nothing", a, b, times{at(3, 3)})
}

func TestOneBatchTwice(t *testing.T) { // P11.2: its changes are those of both
	a, _ := pair(t)
	holdWays(t, "twice", a, a, nil)
	g, m := begun(t, "twice", a, a, times{at(5, 5)})
	work(t, "twice", g, m, high)
	if c, e := g.Batch(); e != api.OK || c.Weight() != 14 || !sameUps(c.Ups(), ups{up(r(1, "a"), 5, 5, 2), up(r(4), 5, 5, 2), up(r(5), 5, 5, 18)}) {
		t.Errorf("%s, error %d", told(tells(c)), int(e))
	}
}

func TestOddTimesAndRows(t *testing.T) { // P11.2: what a batch takes, a merge takes
	a := of(t, 1, up(r(low), low, high, 1), up(r(0, ""), -1, -1, 2), up(r("\xff"), high, low, 3), up(api.Row{{Kind: low}, {Kind: 9}}, 0, 0, 4))
	b := of(t, 1, up(r(low), high, high, 1), up(r(0, ""), -1, -1, -2), up(r("\xff", "\x00"), high, low, 3), up(api.Row{{Kind: 3}}, 1<<50, 0, 4))
	for _, since := range []times{nil, {at(0, 0)}, {at(api.MaxTime, api.MaxTime)}, {at(0, 9), at(2, 1), at(api.MaxTime, 0)}} {
		holdWays(t, "odd", a, b, since)
		holdWays(t, "odd", b, a, since)
	}
}

// wide is a frontier of so many times.
func wide(many int) times {
	var f times
	for i := range many {
		f = append(f, at(i, many-1-i))
	}
	return f
}

func TestTheGreatestSince(t *testing.T) { // P11.1: MaxFront times may be, one more may not
	a, b := pair(t)
	holdWays(t, "the greatest since", a, b, wide(api.MaxFront))
	if g, e := merge.New(a, b, wide(api.MaxFront+1)); g != nil || e != api.ErrMany {
		t.Errorf("merge %v, error %d", g != nil, int(e))
	}
}

// refused are frontiers that may not be, each with front.Check's error.
func refused() map[api.Errno][]times {
	many := append(wide(api.MaxFront), at(-1, -1))
	return map[api.Errno][]times{
		api.ErrMany: {wide(api.MaxFront + 1), many},
		api.ErrTime: {{at(-1, 0)}, {at(0, -1)}, {at(api.MaxTime+1, 0)}, {at(0, api.MaxTime+1)}, {at(low, high)}, {at(0, 0), at(0, 0), at(-1, 0)}},
		api.ErrForm: {{at(0, 0), at(0, 0)}, {at(2, 0), at(0, 2)}, {at(0, 0), at(1, 1)}, {at(0, 2), at(1, 2)}},
	}
}

func TestSinceThatMayNotBe(t *testing.T) { // P11.1: front.Check's error, and the merge is nil
	a, b := pair(t)
	for want, list := range refused() {
		for _, since := range list {
			if e := front.Check(since); e != want {
				t.Fatalf("the test's own list: %s: %d", told(since), int(e))
			}
			for _, k := range [][2]*batch.Batch{{a, b}, {b, a}, {of(t, 1), of(t, 1)}, {a, a}} {
				if g, e := merge.New(k[0], k[1], since); g != nil || e != want {
					t.Errorf("%s: merge %v, error %d, want %d", told(since), g != nil, int(e), int(want))
				}
			}
		}
	}
}

func TestNilBatches(t *testing.T) { // P11.1: ErrNil, also where since may not be
	a, _ := pair(t)
	sinces := []times{nil, {}, {at(1, 0)}}
	for _, list := range refused() {
		sinces = append(sinces, list...)
	}
	for _, b := range []*batch.Batch{a, of(t, 0), of(t, 0, one(1, 1)), of(t, 3)} {
		for _, since := range sinces {
			for _, k := range [][2]*batch.Batch{{nil, b}, {b, nil}, {nil, nil}} {
				if g, e := merge.New(k[0], k[1], since); g != nil || e != api.ErrNil {
					t.Errorf("merge %v, error %d", g != nil, int(e))
				}
			}
		}
	}
}

func TestOtherKeyNumbers(t *testing.T) { // P11.1: ErrArg, also where since may not be
	zero, first, second, full := of(t, 0, one(1, 1)), of(t, 1, one(1, 1)), of(t, 2, up(r(1, 2), 0, 0, 1)), of(t, api.MaxCols)
	sinces := []times{nil, {at(1, 0)}}
	for _, list := range refused() {
		sinces = append(sinces, list...)
	}
	all := []*batch.Batch{zero, first, second, full, of(t, 4), of(t, 5)}
	for _, since := range sinces {
		for i, a := range all {
			for k, b := range all {
				if i == k {
					continue
				}
				if g, e := merge.New(a, b, since); g != nil || e != api.ErrArg {
					t.Errorf("keys %d and %d: merge %v, error %d", a.Key(), b.Key(), g != nil, int(e))
				}
			}
		}
	}
	for _, a := range all {
		if g, e := merge.New(a, of(t, a.Key()), nil); g == nil || e != api.OK {
			t.Errorf("key %d: merge %v, error %d", a.Key(), g != nil, int(e))
		}
	}
}

func TestBatchAheadOfTheEnd(t *testing.T) { // P11.3: ErrTime, and the batch is nil
	a, b := pair(t)
	for _, since := range []times{nil, {at(2, 2)}} {
		g, e := merge.New(a, b, since)
		if e != api.OK {
			t.Fatal(int(e))
		}
		for !g.Done() {
			if c, e := g.Batch(); c != nil || e != api.ErrTime {
				t.Fatalf("%d to do: batch %v, error %d", g.Todo(), c != nil, int(e))
			}
			g.Work(1)
		}
		if c, e := g.Batch(); c == nil || e != api.OK {
			t.Fatalf("batch %v, error %d", c != nil, int(e))
		}
	}
}

// holdBroken asks a merge that has broken all that it may be asked.
func holdBroken(t *testing.T, name string, g *merge.Merge) {
	t.Helper()
	todo := g.Todo()
	for _, fuel := range []int{1, 0, -1, low, 14, high} {
		if left, e := g.Work(fuel); left != 0 || e != api.ErrOver {
			t.Fatalf("%s: Work(%d) = %d, error %d", name, fuel, left, int(e))
		}
		if b, e := g.Batch(); b != nil || e != api.ErrOver {
			t.Fatalf("%s: batch %v, error %d", name, b != nil, int(e))
		}
		if g.Done() || g.Todo() != todo {
			t.Fatalf("%s: Done %v, Todo %d, was %d", name, g.Done(), g.Todo(), todo)
		}
	}
}

func TestSumsThatAreTooGreat(t *testing.T) { // P11.2, P11.3: from then on that error is told
	for _, k := range []struct {
		name  string
		a, b  *batch.Batch
		since times
		works int // so many with fuel 1 go well
	}{
		{"the only row", of(t, 1, one(1, high)), of(t, 1, one(1, 1)), nil, 0},
		{"below the least", of(t, 1, one(1, low)), of(t, 1, one(1, -1)), nil, 0},
		{"the first row", of(t, 1, one(1, high), one(2, 1)), of(t, 1, one(1, 1), one(3, 1)), nil, 0},
		{"a row between", of(t, 1, one(1, 1), one(2, high), one(4, 1)), of(t, 1, one(2, high), one(3, 1)), nil, 1},
		{"the last row", of(t, 1, one(1, 1), one(4, low)), of(t, 1, one(3, 1), one(4, low)), nil, 2},
		{"behind rows that come to nothing", of(t, 1, one(1, 1), one(2, 1), one(4, low)), of(t, 1, one(1, -1), one(2, -1), one(4, low)), nil, 2},
		{"within a, by since", of(t, 1, one(1, 1), one(2, high), up(r(2), 1, 0, 1)), of(t, 1), times{at(1, 0)}, 1},
		{"within b, by since", of(t, 1), of(t, 1, one(1, 1), one(2, high), up(r(2), 1, 0, 1)), times{at(1, 0)}, 1},
		{"between both, by since", of(t, 1, up(r(2), 1, 0, high)), of(t, 1, up(r(2), 0, 1, 1)), times{at(1, 1)}, 0},
		{"on its way only", of(t, 1, one(1, high)), of(t, 1, up(r(1), 0, 0, 1), up(r(1), 1, 0, -1)), times{at(1, 0)}, 0},
		{"a later time of a row", of(t, 1, one(1, 1), up(r(1), 0, 1, high)), of(t, 1, one(1, 1), up(r(1), 0, 1, high)), nil, 0},
	} {
		if _, e := batch.New(1, slices.Concat(k.a.Ups(), k.b.Ups()), k.since); e != api.ErrOver {
			t.Fatalf("%s: the test's own case: error %d", k.name, int(e))
		}
		g, m := begun(t, k.name, k.a, k.b, k.since)
		for range k.works {
			work(t, k.name, g, m, 1)
		}
		if c, e := g.Batch(); c != nil || e != api.ErrTime || g.Done() {
			t.Fatalf("%s: ahead of it: batch %v, error %d", k.name, c != nil, int(e))
		}
		if left, e := g.Work(0); left != 0 || e != api.OK {
			t.Fatalf("%s: without fuel: %d left, error %d", k.name, left, int(e))
		}
		work(t, k.name, g, m, 1)
		holdBroken(t, k.name, g)
		for _, fuel := range []int{k.a.Len() + k.b.Len(), high} {
			g, m := begun(t, k.name, k.a, k.b, k.since)
			work(t, k.name, g, m, fuel)
			if !m.broken {
				t.Fatalf("%s: the model has not broken", k.name)
			}
			holdBroken(t, k.name, g)
		}
	}
}

func TestSumsThatAreNotTooGreat(t *testing.T) { // P11.2: a's changes come ahead of b's, each in its order
	for _, k := range []struct {
		name  string
		a, b  *batch.Batch
		since times
		want  ups
	}{
		{"a goes down first", of(t, 1, one(1, high), up(r(1), 1, 0, -1)), of(t, 1, up(r(1), 0, 1, 1)), times{at(1, 1)}, ups{up(r(1), 1, 1, high)}},
		{"b goes down first", of(t, 1, up(r(1), 0, 1, high)), of(t, 1, one(1, -1), up(r(1), 1, 0, 1)), times{at(1, 1)}, ups{up(r(1), 1, 1, high)}},
		{"other times", of(t, 1, one(1, high)), of(t, 1, up(r(1), 0, 1, high)), nil, ups{one(1, high), up(r(1), 0, 1, high)}},
		{"other rows", of(t, 1, one(1, high)), of(t, 1, one(2, high)), times{at(5, 5)}, ups{up(r(1), 5, 5, high), up(r(2), 5, 5, high)}},
		{"the least and the greatest", of(t, 1, one(1, low)), of(t, 1, one(1, high)), nil, ups{one(1, -1)}},
	} {
		g, m := begun(t, k.name, k.a, k.b, k.since)
		work(t, k.name, g, m, 9)
		if c, e := g.Batch(); e != api.OK || !sameUps(c.Ups(), k.want) {
			t.Errorf("%s: %s, error %d", k.name, told(tells(c)), int(e))
		}
		holdWays(t, k.name, k.a, k.b, k.since)
	}
	// The other way round the first one is too great on its way.
	g, e := merge.New(of(t, 1, one(1, high), up(r(1), 1, 0, 1)), of(t, 1, up(r(1), 0, 1, -1)), times{at(1, 1)})
	if e != api.OK {
		t.Fatal(int(e))
	}
	if left, e := g.Work(9); left != 0 || e != api.ErrOver {
		t.Errorf("%d left, error %d", left, int(e))
	}
}

func TestNilMerge(t *testing.T) { // P11.1: ErrNil, false, 0
	var g *merge.Merge
	for _, fuel := range []int{0, 1, -1, low, high} {
		if left, e := g.Work(fuel); left != 0 || e != api.ErrNil {
			t.Errorf("Work(%d): %d, error %d", fuel, left, int(e))
		}
	}
	if b, e := g.Batch(); b != nil || e != api.ErrNil {
		t.Errorf("batch %v, error %d", b != nil, int(e))
	}
	if g.Done() || g.Todo() != 0 {
		t.Errorf("Done %v, Todo %d", g.Done(), g.Todo())
	}
}

func TestWhatNoCallMade(t *testing.T) { // the rule of ends: what it answers is open, but it answers
	made, e := merge.New(new(batch.Batch), new(batch.Batch), nil)
	if e != api.OK {
		t.Fatalf("error %d", int(e))
	}
	for _, g := range []*merge.Merge{new(merge.Merge), made} {
		g.Todo()
		g.Done()
		g.Batch()
		for _, fuel := range []int{0, 1, -1, low, high} {
			g.Work(fuel)
		}
		g.Batch()
	}
}

// laden is the row with the fields that play no part filled by some number.
func laden(r api.Row, by int) api.Row {
	r = slices.Clone(r)
	for i := range r {
		if r[i].Kind != api.KindInt {
			r[i].Int = by
		}
		if r[i].Kind != api.KindStr {
			r[i].Str = string(rune('a' + by&7))
		}
	}
	return r
}

func TestRowsThatDifferWhereItPlaysNoPart(t *testing.T) { // P11.2, the rule of rows: they are one row
	rows := []api.Row{r(1, "a"), r(1, "b"), {n(2), {Kind: 7}}, {{Kind: -1}, s("c")}}
	var ofA, ofB ups
	for i, x := range rows {
		ofA = append(ofA, up(laden(x, 2), 0, 0, 1+i), up(laden(x, 3), 1, 0, 2))
		ofB = append(ofB, up(laden(x, 5), 0, 0, 1+i), up(laden(x, 1), 2, 0, 3))
	}
	a, b := of(t, 1, ofA...), of(t, 1, ofB...)
	g, m := begun(t, "laden", a, b, nil)
	for i := range rows {
		if g.Todo() != 16-4*i {
			t.Fatalf("Todo %d behind %d rows", g.Todo(), i)
		}
		work(t, "laden", g, m, 1)
	}
	if c, e := g.Batch(); e != api.OK || c.Len() != 3*len(rows) {
		t.Fatalf("%s, error %d", told(tells(c)), int(e))
	}
	g, m = begun(t, "laden, since", a, b, times{at(2, 0)})
	work(t, "laden, since", g, m, 16)
	if c, e := g.Batch(); e != api.OK || c.Len() != len(rows) {
		t.Fatalf("%s, error %d", told(tells(c)), int(e))
	}
}

// roomy is a list with spare room behind it, filled by what must stay there.
func roomy[T any](l []T, fill T) []T {
	room := append(make([]T, 0, len(l)+3), l...)
	spare := room[:cap(room)]
	for i := len(l); i < len(spare); i++ {
		spare[i] = fill
	}
	return room
}

func TestSinceIsNotKept(t *testing.T) { // the rule of memory: neither changed nor kept
	a, b := pair(t)
	for bits := range 8 {
		since := roomy(times{at(1, 4), at(3, 2)}, at(7, 7))
		was := slices.Clone(since[:cap(since)])
		g, m := begun(t, "since", a, b, since)
		for range bits {
			work(t, "since", g, m, 1)
		}
		if !slices.Equal(since[:cap(since)], was) {
			t.Fatalf("%v has become %v", was, since[:cap(since)])
		}
		for i := range since[:cap(since)] {
			since[:cap(since)][i] = at(-9, -9)
		}
		holdAt(t, "since written over", g, m)
		work(t, "since written over", g, m, high)
		holdAsBatchNew(t, "since written over", g, a, b, times{at(1, 4), at(3, 2)})
		for _, x := range since[:cap(since)] {
			if x != at(-9, -9) {
				t.Fatalf("since has been written to: %v", since[:cap(since)])
			}
		}
	}
}

func TestBatchesAreNotChanged(t *testing.T) { // the rule of memory: they tell the same behind the merge
	for _, since := range []times{nil, {at(1, 1)}, {at(0, 2), at(2, 0)}} {
		a, b := pair(t)
		wasA, wasB := tells(a), tells(b)
		g, m := begun(t, "the batches", a, b, since)
		for range 7 {
			work(t, "the batches", g, m, 1)
			if tells(a) != wasA || tells(b) != wasB {
				t.Fatalf("%s and %s have become %s and %s", wasA, wasB, tells(a), tells(b))
			}
		}
		c, _ := g.Batch()
		spoilBatch(c)
		if tells(a) != wasA || tells(b) != wasB {
			t.Fatalf("%s and %s have become %s and %s", wasA, wasB, tells(a), tells(b))
		}
	}
	a, b := of(t, 1, one(1, 1), one(2, high)), of(t, 1, one(2, high), one(3, 1))
	wasA, wasB := tells(a), tells(b)
	g, m := begun(t, "broken", a, b, nil)
	work(t, "broken", g, m, 9)
	if tells(a) != wasA || tells(b) != wasB {
		t.Errorf("%s and %s have become %s and %s", wasA, wasB, tells(a), tells(b))
	}
}

func TestBatchesWrittenOver(t *testing.T) { // the rule of memory: also a batch itself is not kept
	for bits := range 7 {
		a, b := pair(t)
		g, m := begun(t, "the batches", a, b, nil)
		for range bits {
			work(t, "the batches", g, m, 1)
		}
		*a, *b = *of(t, 0, one(9, 9)), batch.Batch{}
		holdAt(t, "written over", g, m)
		for range 3 {
			work(t, "written over", g, m, 7)
		}
	}
}

func spoilRow(l api.Row) {
	_ = append(l, s("spoilt"), s("spoilt"))
	for i := range l[:cap(l)] {
		l[:cap(l)][i] = s("spoilt")
	}
}

func spoilUps(l ups) {
	for _, u := range l {
		spoilRow(u.Row)
	}
	_ = append(l, up(r("spoilt"), -1, -1, -1))
	for i := range l[:cap(l)] {
		l[:cap(l)][i] = up(r("spoilt"), -1, -1, -1)
	}
}

func spoilTimes(l times) {
	_ = append(l, at(-8, -8))
	for i := range l[:cap(l)] {
		l[:cap(l)][i] = at(-8, -8)
	}
}

// spoilBatch writes over and appends to all that a batch tells.
func spoilBatch(b *batch.Batch) {
	for i, k := range b.Keys() {
		spoilRow(k)
		for _, rest := range b.Rests(i) {
			spoilRow(rest)
		}
		spoilUps(b.Run(i))
	}
	spoilUps(b.Ups())
	spoilTimes(b.Lower())
	spoilTimes(b.Upper())
	spoilTimes(b.Since())
}

// places are where the values of answers lie, each of which may be told but once.
type places map[unsafe.Pointer]string

func takeAll[T any](t *testing.T, p places, name string, l []T) {
	t.Helper()
	for i := range l[:cap(l)] {
		place := unsafe.Pointer(&l[:cap(l)][i])
		if other, there := p[place]; there {
			t.Fatalf("%s lies where %s does", name, other)
		}
		p[place] = name
	}
}

func (p places) takeBatch(t *testing.T, name string, b *batch.Batch) {
	t.Helper()
	told := b.Ups()
	takeAll(t, p, name, told)
	for _, u := range told {
		takeAll(t, p, name+"'s row", u.Row)
	}
	takeAll(t, p, name+"'s since", b.Since())
}

func TestAnswersAreTheirOwn(t *testing.T) { // the rule of memory: no batch shares memory with the merge, with a or b, with another answer
	for _, since := range []times{nil, {at(1, 1)}, {at(0, 2), at(2, 0)}} {
		a, b := pair(t)
		p := places{}
		takeAll(t, p, "since", since)
		p.takeBatch(t, "a", a)
		p.takeBatch(t, "b", b)
		g, m := begun(t, "their own", a, b, since)
		work(t, "their own", g, m, high)
		first, _ := g.Batch()
		was := tells(first)
		for range 3 {
			c, e := g.Batch()
			if e != api.OK || c == first || tells(c) != was {
				t.Fatalf("%s, error %d, want %s", tells(c), int(e), was)
			}
			p.takeBatch(t, "an answer", c)
			spoilBatch(c)
			if tells(c) != was || tells(first) != was {
				t.Fatal("what a batch tells is the batch's own memory")
			}
			*c = batch.Batch{}
			if tells(first) != was {
				t.Fatal("a batch that is written over shows in another one")
			}
			holdAt(t, "spoilt", g, m)
		}
		g.Work(9)
		if tells(first) != was {
			t.Fatal("Work changes a batch that was answered")
		}
	}
}

func TestEmptyBatchesThatAreAsked(t *testing.T) { // the rule of memory: an answer is a new one, and not a or b
	a, b := pair(t)
	for _, k := range [][2]*batch.Batch{{a, of(t, 1)}, {of(t, 1), b}, {of(t, 1), of(t, 1)}} {
		g, m := begun(t, "one is empty", k[0], k[1], nil)
		work(t, "one is empty", g, m, high)
		wasA, wasB := tells(k[0]), tells(k[1])
		c, e := g.Batch()
		if e != api.OK || c == k[0] || c == k[1] {
			t.Fatalf("error %d, or one that was handed in", int(e))
		}
		*c = *of(t, 0, one(9, 9))
		if tells(k[0]) != wasA || tells(k[1]) != wasB {
			t.Fatal("an answer that is written over shows in what was handed in")
		}
		holdAt(t, "written over", g, m)
	}
}

func TestMergesOfTheSameBatches(t *testing.T) { // the rule of arguments: each is where its own calls have brought it
	a, b := pair(t)
	first, firstModel := begun(t, "the first one", a, b, nil)
	second, secondModel := begun(t, "the second one", b, a, times{at(1, 0)})
	for range 7 {
		work(t, "the first one", first, firstModel, 2)
		holdAt(t, "the second one", second, secondModel)
		work(t, "the second one", second, secondModel, 1)
		holdAt(t, "the first one", first, firstModel)
	}
}

func TestMergedAgain(t *testing.T) { // P11.3: what is answered may be merged
	a, b := pair(t)
	g, m := begun(t, "first", a, b, nil)
	work(t, "first", g, m, high)
	c, _ := g.Batch()
	other := of(t, 1, up(r(3, "a"), 0, 2, -3), up(r("y"), 0, 0, 1))
	again, m := begun(t, "again", c, other, times{at(2, 2)})
	work(t, "again", again, m, high)
	if d, e := again.Batch(); e != api.OK || d.Weight() != 16 || !sameUps(d.Ups(), ups{
		up(r(1, "a"), 2, 2, 1), up(r(2), 2, 2, 6), up(r(3, "a"), 2, 2, 3), up(r(3, "a"), 2, 3, 7), up(r(4), 2, 2, 9), up(r(5), 2, 2, 4), up(r(5), 3, 2, 5), up(r("x"), 2, 2, 10), up(r("y"), 2, 2, 1),
	}) {
		t.Errorf("%s, error %d", told(tells(d)), int(e))
	}
}

// someSince is a frontier, of no time, one or some.
func (d *dicer) someSince() times {
	var l times
	for range d.roll(4) {
		l = append(l, at(d.roll(5), d.roll(5)))
	}
	return front.New(l)
}

// someBatch has rows and times from a small range, so that two share them, and now and then numbers that are great.
func (d *dicer) someBatch(t *testing.T, key int, great bool) *batch.Batch {
	t.Helper()
	var l ups
	for range d.roll(14) {
		diff := d.roll(5) - 2
		if great && d.roll(3) == 0 {
			diff = []int{high, low, high / 2, low / 2}[d.roll(4)]
		}
		u := up(d.someRow(key+d.roll(2)), d.roll(4), d.roll(4), diff)
		// Within a batch no sum may be too great: it could not be merged.
		if b, _ := batch.New(key, append(slices.Clone(l), u), nil); b != nil {
			l = append(l, u)
		}
	}
	b, e := batch.Weighed(key, l, d.someSinceOf(key, l), len(l)+d.roll(3))
	if e != api.OK {
		t.Fatalf("batch of %s: error %d", told(l), int(e))
	}
	return b
}

// someSinceOf is a frontier with which the changes may be a batch.
func (d *dicer) someSinceOf(key int, l ups) times {
	since := d.someSince()
	if b, _ := batch.New(key, l, since); b == nil || d.roll(2) == 0 {
		return nil
	}
	return since
}

func (d *dicer) someRow(length int) api.Row {
	var told api.Row
	for range length {
		told = append(told, []api.Val{n(d.roll(4) - 1), s(string(rune('a' + d.roll(2))))}[d.roll(5)/4])
	}
	return told
}

// run merges in bits of some sizes, and holds what comes of it; it tells whether the merge broke.
func (d *dicer) run(t *testing.T, a, b *batch.Batch, since times) bool {
	t.Helper()
	g, m := begun(t, "generated", a, b, since)
	for !m.broken && !m.isDone() {
		work(t, "generated", g, m, d.roll(9)-2)
	}
	work(t, "generated", g, m, d.roll(5)-2)
	holdAsBatchNew(t, "generated", g, a, b, since)
	whole, m := begun(t, "at once", a, b, since)
	if left, e := whole.Work(whole.Todo()); left != 0 || (e == api.OK) != whole.Done() || whole.Done() != g.Done() {
		t.Fatalf("with fuel of Todo: %d left, error %d, Done %v", left, int(e), whole.Done())
	}
	m.work(m.todo())
	holdAt(t, "at once", whole, m)
	return m.broken
}

func TestGenerated(t *testing.T) { // P11.2 to P11.4: however the fuel comes
	d := dice(11)
	broken, nothing, shared := 0, 0, 0
	for i := range 3000 {
		key := d.roll(3)
		a, b, since := d.someBatch(t, key, i%3 == 0), d.someBatch(t, key, i%3 == 0), d.someSince()
		m := modelOf(a, b, since)
		if m.work(high); !m.broken && len(m.done) < m.weight {
			nothing++
		}
		if len(m.rows) < a.Len()+b.Len() {
			shared++
		}
		if d.run(t, a, b, since) {
			broken++
		}
	}
	if broken < 50 || nothing < 50 || shared < 50 {
		t.Errorf("%d broke, %d came to less, %d shared rows", broken, nothing, shared)
	}
}

func TestFuelOfTodo(t *testing.T) { // P11.4: from every place on, it is done
	a, b := pair(t)
	for bits := range 8 {
		g, m := begun(t, "Todo", a, b, times{at(1, 0)})
		for range bits {
			work(t, "Todo", g, m, 1)
		}
		todo := g.Todo()
		if left, e := g.Work(todo); left != 0 || e != api.OK || !g.Done() {
			t.Fatalf("%d to do: %d left, error %d, Done %v", todo, left, int(e), g.Done())
		}
		holdAsBatchNew(t, "Todo", g, a, b, times{at(1, 0)})
	}
}

func TestMany(t *testing.T) { // P11.2 to P11.4: long batches, told by a rule
	const length = 4000
	var ofA, ofB ups
	for i := range length {
		ofA = append(ofA, up(r(2*i, "t"), i%3, i%5, 1+i))
		ofB = append(ofB, up(r(3*i, "t"), i%2, i%7, -1-i))
	}
	a, b := of(t, 1, ofA...), of(t, 1, ofB...)
	for _, since := range []times{nil, {at(1, 3)}} {
		g, e := merge.New(a, b, since)
		if e != api.OK {
			t.Fatal(int(e))
		}
		bits := 0
		for ; !g.Done(); bits++ {
			todo := g.Todo()
			left, e := g.Work(10)
			if e != api.OK || left != 0 && !g.Done() || todo-g.Todo() > 11 {
				t.Fatalf("%d left, error %d, Todo %d", left, int(e), g.Todo())
			}
		}
		if bits < 2*length/11 || bits > 2*length/10 {
			t.Errorf("%d bits", bits)
		}
		holdAsBatchNew(t, "many", g, a, b, since)
	}
}

func TestLongRuns(t *testing.T) { // P11.2: a row with many times is looked through once, not for each row ahead of it
	const length = 50000
	var late, early ups
	for i := range length {
		late = append(late, up(r("late"), 0, i, 1))
		early = append(early, one(i, 1))
	}
	for _, k := range [][2]*batch.Batch{{of(t, 1, late...), of(t, 1, early...)}, {of(t, 1, early...), of(t, 1, late...)}} {
		g, e := merge.New(k[0], k[1], nil)
		if e != api.OK {
			t.Fatal(int(e))
		}
		for i := range length {
			if left, e := g.Work(1); left != 0 || e != api.OK || g.Todo() != 2*length-1-i {
				t.Fatalf("%d left, error %d, Todo %d", left, int(e), g.Todo())
			}
		}
		if left, e := g.Work(length + 5); left != 5 || e != api.OK || !g.Done() {
			t.Fatalf("%d left, error %d", left, int(e))
		}
		if b, e := g.Batch(); e != api.OK || b.Len() != 2*length || b.Weight() != 2*length {
			t.Fatalf("Len %d, Weight %d, error %d", b.Len(), b.Weight(), int(e))
		}
	}
}

func FuzzMerges(f *testing.F) {
	f.Add(uint64(1), 0, false)
	f.Add(uint64(2), 1, true)
	f.Add(uint64(3), 2, true)
	f.Fuzz(func(t *testing.T, seed uint64, key int, great bool) {
		d := dice(seed)
		key &= 3
		a, b := d.someBatch(t, key, great), d.someBatch(t, key, great)
		d.run(t, a, b, d.someSince())
	})
}

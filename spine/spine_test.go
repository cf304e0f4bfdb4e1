package spine_test

import (
	"fmt"
	"math"
	"math/big"
	"math/bits"
	"slices"
	"strings"
	"testing"
	"unsafe"

	"runnel/api"
	"runnel/batch"
	"runnel/front"
	"runnel/moment"
	"runnel/row"
	"runnel/spine"
	"runnel/zset"
)

const (
	low  = math.MinInt
	high = math.MaxInt
)

type ups = []api.Up
type times = []api.Time

func n(x int) api.Val    { return api.Val{Kind: api.KindInt, Int: x} }
func s(x string) api.Val { return api.Val{Kind: api.KindStr, Str: x} }

// r is a row of numbers and texts.
func r(values ...any) api.Row {
	var told api.Row
	for _, v := range values {
		switch x := v.(type) {
		case int:
			told = append(told, n(x))
		case string:
			told = append(told, s(x))
		}
	}
	return told
}

func at(epoch, round int) api.Time { return api.Time{Epoch: epoch, Round: round} }

func up(r api.Row, epoch, round, diff int) api.Up {
	return api.Up{Row: r, Time: at(epoch, round), Diff: diff}
}

// one is a change of a row that is one number, at the first time.
func one(x, diff int) api.Up { return up(r(x), 0, 0, diff) }

// told is x as a text that is not too long to be read.
func told(x any) string {
	text := strings.ToValidUTF8(fmt.Sprintf("%+v", x), "?")
	if len(text) > 500 {
		text = text[:500] + " .."
	}
	return text
}

func sameUps(x, y ups) bool {
	return slices.EqualFunc(x, y, func(u, v api.Up) bool {
		return row.Same(u.Row, v.Row) && u.Time == v.Time && u.Diff == v.Diff
	})
}

func sameCounts(x, y []api.Count) bool {
	return slices.EqualFunc(x, y, func(c, d api.Count) bool { return row.Same(c.Row, d.Row) && c.Diff == d.Diff })
}

// dice are numbers by a rule: the same ones at each run.
type dicer struct{ state uint64 }

func dice(seed uint64) *dicer { return &dicer{seed*2654435761 + 88172645463325252} }

// roll is a number from 0 up to below sides.
func (d *dicer) roll(sides int) int {
	d.state ^= d.state << 13
	d.state ^= d.state >> 7
	d.state ^= d.state << 17
	return int(d.state>>33) % sides
}

// stands is what stands for a time, told by each time of since by itself.
func stands(since times, t api.Time) api.Time {
	if len(since) == 0 {
		return t
	}
	least := at(high, high)
	for _, f := range since {
		least = at(min(least.Epoch, max(f.Epoch, t.Epoch)), min(least.Round, max(f.Round, t.Round)))
	}
	return least
}

// sums are those of the changes of one row, by numbers of any length; ok is false where one is too great on its way.
func sums(l ups, since times) (summed ups, ok bool) {
	var told times
	for _, u := range l {
		if t := stands(since, u.Time); !slices.Contains(told, t) {
			told = append(told, t)
		}
	}
	slices.SortFunc(told, moment.Order)
	for _, t := range told {
		sum := new(big.Int)
		for _, u := range l {
			if stands(since, u.Time) != t {
				continue
			}
			if sum.Add(sum, big.NewInt(int64(u.Diff))); !sum.IsInt64() {
				return nil, false
			}
		}
		if sum.Sign() != 0 {
			summed = append(summed, api.Up{Row: l[0].Row, Time: t, Diff: int(sum.Int64())})
		}
	}
	return summed, true
}

// byRows are the changes of each row, in the order of rows.
func byRows(l ups) []ups {
	var rows []ups
	for _, u := range l {
		i := slices.IndexFunc(rows, func(x ups) bool { return row.Same(x[0].Row, u.Row) })
		if i < 0 {
			i = len(rows)
			rows = append(rows, nil)
		}
		rows[i] = append(rows[i], u)
	}
	slices.SortFunc(rows, func(x, y ups) int { return row.Order(x[0].Row, y[0].Row) })
	return rows
}

// lot is a batch as the chapter says it.
type lot struct {
	ups    ups
	weight int
	since  times
}

// lotOf is a batch of changes; ok is false where a sum is too great.
func lotOf(l ups, since times) (made *lot, ok bool) {
	made = &lot{weight: len(l), since: since}
	for _, x := range byRows(l) {
		summed, ok := sums(x, since)
		if !ok {
			return nil, false
		}
		made.ups = append(made.ups, summed...)
	}
	return made, true
}

// spot is a place as the chapter says it: one lot, or two, and what is left to be merged of them.
type spot struct {
	lots  []*lot
	since times
	left  []ups
	done  ups
}

func (p *spot) merging() bool { return len(p.lots) == 2 }

func (p *spot) level() int {
	weight := 0
	for _, l := range p.lots {
		weight += l.weight
	}
	return bits.Len(uint(weight))
}

// work merges with fuel; ok is false where it breaks.
func (p *spot) work(fuel int) (left int, ok bool) {
	for fuel > 0 && len(p.left) > 0 {
		summed, ok := sums(p.left[0], p.since)
		if !ok {
			return 0, false
		}
		p.done = append(p.done, summed...)
		fuel = max(0, fuel-len(p.left[0]))
		p.left = p.left[1:]
	}
	if len(p.left) == 0 {
		p.lots = []*lot{{ups: p.done, weight: p.lots[0].weight + p.lots[1].weight, since: p.since}}
	}
	return fuel, true
}

func (p *spot) finish() (ok bool) {
	if !p.merging() {
		return true
	}
	_, ok = p.work(high)
	return ok
}

// model is a spine as the chapter says it.
type model struct {
	key    int
	since  times
	spots  []*spot
	all    ups
	broken bool
}

func (m *model) insert(l ups) api.Errno {
	if m.broken {
		return api.ErrOver
	}
	if len(l) == 0 {
		return api.OK
	}
	made, ok := lotOf(l, m.since)
	if !ok {
		return api.ErrOver
	}
	m.all = append(m.all, l...)
	m.spots = append(m.spots, &spot{lots: []*lot{made}})
	m.settle()
	if m.broken {
		return api.ErrOver
	}
	return api.OK
}

func (m *model) settle() {
	for !m.broken && len(m.spots) >= 2 && m.spots[len(m.spots)-1].level() >= m.spots[len(m.spots)-2].level() {
		m.unite()
	}
}

func (m *model) unite() {
	ahead, last := m.spots[len(m.spots)-2], m.spots[len(m.spots)-1]
	if !ahead.finish() || !last.finish() {
		m.broken = true
		return
	}
	m.spots = append(m.spots[:len(m.spots)-2], m.both(ahead.lots[0], last.lots[0]))
}

func (m *model) both(elder, younger *lot) *spot {
	return &spot{lots: []*lot{elder, younger}, since: m.since, left: byRows(slices.Concat(elder.ups, younger.ups))}
}

func (m *model) work(fuel int) (left int, e api.Errno) {
	for !m.broken && fuel > 0 {
		i := len(m.spots) - 1
		for i >= 0 && !m.spots[i].merging() {
			i--
		}
		switch {
		case i >= 0:
			var ok bool
			fuel, ok = m.spots[i].work(fuel)
			m.broken = !ok
		case len(m.spots) >= 2:
			m.unite()
			m.settle()
		case !m.still():
			m.spots[0] = m.both(m.spots[0].lots[0], &lot{since: m.since})
		default:
			return fuel, api.OK
		}
	}
	if m.broken {
		return 0, api.ErrOver
	}
	return max(0, fuel), api.OK
}

func (m *model) still() bool {
	if m.broken || len(m.spots) > 1 {
		return false
	}
	return len(m.spots) == 0 || !m.spots[0].merging() && slices.Equal(m.spots[0].lots[0].since, m.since)
}

func (m *model) lots() []*lot {
	var lots []*lot
	for _, p := range m.spots {
		lots = append(lots, p.lots...)
	}
	return lots
}

func (m *model) ups() ups {
	var l ups
	for _, x := range m.lots() {
		l = append(l, x.ups...)
	}
	return l
}

// pair is a spine, and its model: what is done to one is done to the other, and held against it.
type pair struct {
	t    *testing.T
	name string
	sp   *spine.Spine
	m    *model
	// asked are times that are asked for behind each call.
	asked times
	// great tells that sums may be too great: then what there is may hang on the order in which it is added.
	great bool
}

func begun(t *testing.T, name string, key int) *pair {
	t.Helper()
	sp, e := spine.New(key)
	if e != api.OK || sp == nil {
		t.Fatalf("%s: spine %v, error %d", name, sp != nil, int(e))
	}
	p := &pair{t: t, name: name, sp: sp, m: &model{key: key, since: times{at(0, 0)}}, asked: times{at(0, 0), at(1, 1), at(2, 0), at(0, 3), at(api.MaxTime, api.MaxTime)}}
	p.hold("new")
	return p
}

// hold asks all that may be asked.
func (p *pair) hold(step string) {
	p.t.Helper()
	name := p.name + ", " + step
	if got := p.sp.Since(); !slices.Equal(got, p.m.since) {
		p.t.Fatalf("%s: Since is %v, want %v", name, got, p.m.since)
	}
	if got := p.sp.Total(); got != len(p.m.all) {
		p.t.Fatalf("%s: Total is %d, want %d", name, got, len(p.m.all))
	}
	if got := p.sp.Still(); got != p.m.still() {
		p.t.Fatalf("%s: Still is %v, want %v", name, got, p.m.still())
	}
	p.holdBatches(name)
	if got, want := p.sp.Ups(), p.m.ups(); !sameUps(got, want) {
		p.t.Fatalf("%s: Ups are %s, want %s", name, told(got), told(want))
	}
	p.holdRuns(name)
	for _, t := range p.asked {
		p.holdAt(name, t)
	}
}

func (p *pair) holdBatches(name string) {
	p.t.Helper()
	got, want := p.sp.Batches(), p.m.lots()
	if len(got) != len(want) {
		p.t.Fatalf("%s: %d batches, want %d", name, len(got), len(want))
	}
	if total := len(p.m.all); total > 0 && len(got) > 2*(bits.Len(uint(total))-1)+2 || total == 0 && len(got) > 0 {
		p.t.Fatalf("%s: %d batches of %d changes", name, len(got), total)
	}
	for i, b := range got {
		w := want[i]
		// What the Since of an empty batch is, with which one is merged, is open.
		since := w.weight == 0 || slices.Equal(b.Since(), w.since)
		if b.Key() != p.m.key || b.Weight() != w.weight || b.Len() != len(w.ups) || !since || !sameUps(b.Ups(), w.ups) {
			p.t.Fatalf("%s: batch %d: Key %d, Weight %d, Len %d, Since %v, %s; want %+v", name, i, b.Key(), b.Weight(), b.Len(), b.Since(), told(b.Ups()), told(*w))
		}
	}
}

func (p *pair) holdRuns(name string) {
	p.t.Helper()
	keys := []api.Row{nil, r(-7), r("none"), r(1, 2, 3), make(api.Row, api.MaxCols+1)}
	for _, u := range p.m.all {
		keys = append(keys, u.Row[:p.m.key])
		if p.m.key > 0 {
			keys = append(keys, u.Row[:p.m.key-1])
		}
		if len(u.Row) > p.m.key {
			keys = append(keys, u.Row[:p.m.key+1])
		}
	}
	slices.SortFunc(keys, row.Order)
	for _, key := range slices.CompactFunc(keys, row.Same) {
		var want ups
		for _, u := range p.m.ups() {
			if row.Same(u.Row[:p.m.key], key) {
				want = append(want, u)
			}
		}
		if got := p.sp.Run(key); !sameUps(got, want) {
			p.t.Fatalf("%s: Run of %v is %s, want %s", name, key, told(got), told(want))
		}
	}
}

func (p *pair) holdAt(name string, t api.Time) {
	p.t.Helper()
	got, e := p.sp.At(t)
	if !slices.ContainsFunc(p.m.since, func(f api.Time) bool { return f.Epoch <= t.Epoch && f.Round <= t.Round }) {
		if len(got) != 0 || e != api.ErrCompacted {
			p.t.Fatalf("%s: At %v: %s, error %d, want ErrCompacted", name, t, told(got), int(e))
		}
		return
	}
	of := p.m.all
	if p.great {
		of = p.m.ups()
	}
	want, wantError := zset.At(of, t)
	if e != wantError || !sameCounts(got, want) {
		p.t.Fatalf("%s: At %v: %s, error %d, want %s, error %d", name, t, told(got), int(e), told(want), int(wantError))
	}
}

func (p *pair) insert(l ...api.Up) {
	p.t.Helper()
	want := p.m.insert(l)
	if e := p.sp.Insert(l); e != want {
		p.t.Fatalf("%s: Insert of %s: error %d, want %d", p.name, told(l), int(e), int(want))
	}
	p.hold(fmt.Sprint("Insert of ", told(l)))
}

func (p *pair) work(fuel int) {
	p.t.Helper()
	wantLeft, want := p.m.work(fuel)
	if left, e := p.sp.Work(fuel); left != wantLeft || e != want {
		p.t.Fatalf("%s: Work(%d) = %d, error %d; want %d, error %d", p.name, fuel, left, int(e), wantLeft, int(want))
	}
	p.hold(fmt.Sprint("Work(", fuel, ")"))
}

// advance is to a frontier that may be.
func (p *pair) advance(f ...api.Time) {
	p.t.Helper()
	if e := p.sp.Advance(f); e != api.OK {
		p.t.Fatalf("%s: Advance to %s: error %d", p.name, told(f), int(e))
	}
	p.m.since = slices.Clone(f)
	p.hold(fmt.Sprint("Advance to ", told(f)))
}

// weights are those of the batches, and which is told behind which step.
func (p *pair) weights(step string, want ...int) {
	p.t.Helper()
	var got []int
	for _, b := range p.sp.Batches() {
		got = append(got, b.Weight())
	}
	if !slices.Equal(got, want) {
		p.t.Fatalf("%s, %s: batches of the weights %v, want %v", p.name, step, got, want)
	}
}

// still is what Still must tell.
func (p *pair) still(step string, want bool) {
	p.t.Helper()
	if p.sp.Still() != want {
		p.t.Fatalf("%s, %s: Still is %v", p.name, step, !want)
	}
}

// left is what must be left of fuel.
func (p *pair) left(fuel, want int) {
	p.t.Helper()
	p.m.work(fuel)
	if left, e := p.sp.Work(fuel); left != want || e != api.OK {
		p.t.Fatalf("%s: Work(%d) = %d, error %d; want %d", p.name, fuel, left, int(e), want)
	}
	p.hold(fmt.Sprint("Work(", fuel, ")"))
}

// has is what Ups must tell.
func (p *pair) has(step string, want ...api.Up) {
	p.t.Helper()
	if got := p.sp.Ups(); !sameUps(got, want) {
		p.t.Fatalf("%s, %s: Ups are %s, want %s", p.name, step, told(got), told(want))
	}
}

// some are as many changes, each of another row, from a number on.
func some(from, many int) ups {
	var l ups
	for i := range many {
		l = append(l, one(from+i, 1))
	}
	return l
}

func TestThePagesExample(t *testing.T) { // P12.2: places of the levels 1; 2 (merging); 2, 1; 3 (merging)
	p := begun(t, "the page's", 1)
	p.still("new", true)
	p.insert(one(1, 1))
	p.weights("level 1", 1)
	p.still("level 1", true)
	p.insert(one(2, 1))
	p.weights("level 2, merging", 1, 1)
	p.still("level 2, merging", false)
	p.insert(one(3, 1))
	p.weights("levels 2, 1", 1, 1, 1)
	p.insert(one(4, 1))
	p.weights("level 3, merging", 2, 2)
	p.has("level 3, merging", one(1, 1), one(2, 1), one(3, 1), one(4, 1))
	p.still("level 3, merging", false)
}

func TestInsertsOfOne(t *testing.T) { // P12.2: told by hand, batch by batch
	p := begun(t, "of one", 1)
	for i, want := range [][]int{
		{1}, {1, 1}, {1, 1, 1}, {2, 2}, {2, 2, 1}, {2, 2, 1, 1}, {2, 2, 1, 1, 1}, {4, 4}, {4, 4, 1}, {4, 4, 1, 1}, {4, 4, 1, 1, 1},
		{4, 4, 2, 2}, {4, 4, 2, 2, 1}, {4, 4, 2, 2, 1, 1}, {4, 4, 2, 2, 1, 1, 1}, {8, 8}, {8, 8, 1},
	} {
		p.insert(up(r(i*7%5, i), i%3, i%4, i-8))
		p.weights(fmt.Sprint(i+1, " changes"), want...)
	}
}

func TestInsertsOfMany(t *testing.T) { // P12.2: which places become one
	for _, k := range []struct {
		name    string
		sizes   []int
		weights []int
	}{
		{"levels that fall", []int{9, 4, 2, 1}, []int{9, 4, 2, 1}},
		{"levels that fall by more than one", []int{70, 9, 1}, []int{70, 9, 1}},
		{"levels that are alike", []int{4, 7}, []int{4, 7}},
		{"alike, the lighter one behind", []int{7, 4}, []int{7, 4}},
		{"weights that differ by one, levels too", []int{8, 7}, []int{8, 7}},
		{"a level that rises", []int{1, 5}, []int{1, 5}},
		{"levels that rise again and again", []int{1, 2, 4, 8}, []int{7, 8}},
		{"one that is heavier than all", []int{4, 2, 1, 9}, []int{4, 12}},
		{"one that takes some of them along", []int{70, 4, 2, 1, 9}, []int{70, 4, 12}},
		{"it ends at a heavy one", []int{70, 3, 2}, []int{70, 3, 2}},
		{"it comes to be as heavy as the one ahead", []int{4, 2, 2}, []int{4, 4}},
		{"it comes to be heavier than the one ahead", []int{5, 3, 3}, []int{5, 6}},
		{"it stays lighter than the one ahead", []int{8, 3, 3}, []int{8, 3, 3}},
		{"two are being merged ahead of it", []int{2, 2, 1}, []int{2, 2, 1}},
		{"two are being merged, and become one", []int{2, 2, 1, 4}, []int{4, 5}},
	} {
		p := begun(t, k.name, 1)
		from := 0
		for _, size := range k.sizes {
			p.insert(some(from, size)...)
			from += size
		}
		p.weights("at the end", k.weights...)
		p.has("the elder one first", some(0, from)...)
	}
}

func TestFallingLevelsAreNoMerge(t *testing.T) { // P12.2, P12.3: whether two batches are at two places or being merged is told by the fuel that they take
	for _, k := range []struct {
		name  string
		sizes []int
		fuel  int // of which nothing is left
		want  []int
	}{
		{"two places", []int{4, 3}, 1, []int{4, 3}},
		{"two places become one", []int{4, 3}, 7, []int{7}},
		{"being merged", []int{4, 4}, 7, []int{4, 4}},
		{"being merged, and done", []int{4, 4}, 8, []int{8}},
		{"three places: the last two first", []int{8, 4, 2}, 6, []int{8, 6}},
		{"three places: then all", []int{8, 4, 2}, 6 + 14, []int{14}},
		{"a merge ahead: the last place is lighter, the merge comes first", []int{4, 4, 2}, 8, []int{8, 2}},
		{"two merges: the last one first", []int{4, 4, 2, 2}, 4, []int{4, 4, 4}},
		{"two merges: then the other one", []int{4, 4, 2, 2}, 4 + 8, []int{8, 4}},
		{"two merges: then all", []int{4, 4, 2, 2}, 4 + 8 + 12, []int{12}},
		{"what is united settles: of the last two the merge is done without fuel", []int{8, 7, 1, 1}, 2, []int{8, 7, 2}},
		{"settled: 7 and 2 are finished, and 8 is merged with them", []int{8, 7, 1, 1}, 3, []int{8, 9}},
	} {
		p := begun(t, k.name, 1)
		from := 0
		for _, size := range k.sizes {
			p.insert(some(from, size)...)
			from += size
		}
		p.left(k.fuel, 0)
		p.weights("behind it", k.want...)
	}
}

func TestWhichIsTheElder(t *testing.T) { // P12.2, P12.5: its changes come first, in Ups, in Run and in sums
	p := begun(t, "the elder", 1)
	p.insert(up(r(1, "new"), 0, 0, 1))
	p.insert(up(r(1, "late"), 0, 0, 2))
	p.has("two", up(r(1, "new"), 0, 0, 1), up(r(1, "late"), 0, 0, 2))
	if got := p.sp.Run(r(1)); !sameUps(got, ups{up(r(1, "new"), 0, 0, 1), up(r(1, "late"), 0, 0, 2)}) {
		t.Fatalf("Run is %s", told(got))
	}
	p.work(9)
	p.has("merged", up(r(1, "late"), 0, 0, 2), up(r(1, "new"), 0, 0, 1))

	// The greatest number goes down first only if the elder one's changes are added first.
	p = begun(t, "the elder in sums", 1)
	p.great = true
	p.insert(up(r(1), 0, 0, high), up(r(1), 1, 0, -1), up(r(2), 0, 0, 1), up(r(3), 0, 0, 1))
	p.insert(up(r(1), 0, 1, 1))
	p.weights("two places", 4, 1)
	p.advance(at(1, 1))
	p.left(5, 0)
	p.has("merged", up(r(1), 1, 1, high), up(r(2), 1, 1, 1), up(r(3), 1, 1, 1))

	// Here it would go down first only if the younger one's were.
	p = begun(t, "the elder in sums that are too great", 1)
	p.great = true
	p.insert(up(r(1), 0, 0, high), up(r(1), 1, 0, 1), up(r(2), 0, 0, 1), up(r(3), 0, 0, 1))
	p.insert(up(r(1), 0, 1, -1))
	p.advance(at(1, 1))
	if left, e := p.sp.Work(5); left != 0 || e != api.ErrOver {
		t.Fatalf("%d left, error %d", left, int(e))
	}
}

func TestWorkWithFuelOfOne(t *testing.T) { // P12.3: again and again, told by hand: which batches there are behind each
	p := begun(t, "fuel 1", 1)
	for i := range 7 {
		p.insert(one(i, 1))
	}
	p.weights("inserted", 2, 2, 1, 1, 1)
	for i, want := range [][]int{
		{2, 2, 1, 1, 1}, {2, 2, 2, 1}, // the last merge
		{2, 2, 2, 1}, {2, 2, 2, 1}, {2, 2, 2, 1}, {4, 2, 1}, // the first one
		{4, 2, 1}, {4, 2, 1}, {4, 3}, // the last two
		{4, 3}, {4, 3}, {4, 3}, {4, 3}, {4, 3}, {4, 3}, {7}, // both
	} {
		p.still("under way", false)
		p.left(1, 0)
		p.weights(fmt.Sprint("fuel of ", i+1), want...)
	}
	p.still("at the end", true)
	p.left(1, 1)
	p.weights("at the end", 7)
}

func TestFuelOfOneMerge(t *testing.T) { // P12.3: less, just as much, more: what is left goes to the next one
	for _, k := range []struct {
		fuel, left int
		want       []int
	}{
		{1, 0, []int{2, 2, 1, 1, 1}}, {2, 0, []int{2, 2, 2, 1}}, {3, 0, []int{2, 2, 2, 1}}, {5, 0, []int{2, 2, 2, 1}},
		{6, 0, []int{4, 2, 1}}, {7, 0, []int{4, 2, 1}}, {8, 0, []int{4, 2, 1}}, {9, 0, []int{4, 3}}, {10, 0, []int{4, 3}}, {15, 0, []int{4, 3}},
		{16, 0, []int{7}}, {17, 1, []int{7}}, {100, 84, []int{7}}, {high, high - 16, []int{7}},
	} {
		p := begun(t, "fuel of one merge", 1)
		for i := range 7 {
			p.insert(one(i, 1))
		}
		p.left(k.fuel, k.left)
		p.weights(fmt.Sprint("fuel ", k.fuel), k.want...)
		p.still("behind it", k.fuel >= 16)
	}
}

func TestRowsTakeAsMuchAsTheyHave(t *testing.T) { // P12.3: merge.Work does whole rows, and goes not below 0
	p := begun(t, "whole rows", 1)
	p.insert(up(r(1), 0, 0, 1), up(r(1), 0, 1, 1), up(r(1), 0, 2, 1), up(r(2), 0, 0, 1))
	p.insert(up(r(1), 0, 0, -1), up(r(1), 0, 1, 1), up(r(1), 0, 3, 1), up(r(3), 0, 0, 1))
	p.left(1, 0) // the first row, with its six changes
	p.left(3, 1) // the other two
	p.has("merged", up(r(1), 0, 1, 2), up(r(1), 0, 2, 1), up(r(1), 0, 3, 1), up(r(2), 0, 0, 1), up(r(3), 0, 0, 1))
	p.weights("merged", 8)
	p.insert(up(r(1), 0, 0, 1))
	p.weights("a place more", 8, 1)
	p.left(7, 1) // of the changes that there are, not of their weight
	p.weights("merged again", 9)
	p.still("merged again", true)
}

func TestWorkWhereNothingIsBeingMerged(t *testing.T) { // P12.3: two places, one place, none
	p := begun(t, "two places", 1)
	p.insert(some(0, 4)...)
	p.insert(some(4, 2)...)
	p.still("two places", false)
	p.left(0, 0)
	p.weights("two places", 4, 2)
	p.left(1, 0)
	p.weights("being merged", 4, 2)
	p.insert(some(6, 1)...)
	p.weights("being merged, and one behind", 4, 2, 1)
	p.left(5, 0)
	p.weights("merged, and one behind", 6, 1)

	p = begun(t, "one place, another Since", 1)
	p.insert(up(r(1), 0, 0, 1), up(r(1), 1, 0, 1), up(r(2), 0, 0, 1))
	p.still("as inserted", true)
	p.left(5, 5)
	p.advance(at(1, 0))
	p.still("advanced", false)
	p.weights("advanced", 3)
	p.left(0, 0)
	p.weights("without fuel", 3)
	p.left(1, 0)
	p.weights("being merged with an empty one", 3, 0)
	p.still("being merged with an empty one", false)
	if b := p.sp.Batches()[1]; b.Len() != 0 || b.Key() != 1 {
		t.Errorf("Len %d, Key %d", b.Len(), b.Key())
	}
	p.has("being merged with an empty one", up(r(1), 0, 0, 1), up(r(1), 1, 0, 1), up(r(2), 0, 0, 1))
	p.left(5, 4)
	p.weights("merged", 3)
	p.has("merged", up(r(1), 1, 0, 2), up(r(2), 1, 0, 1))
	p.still("merged", true)
	p.left(5, 5)

	p = begun(t, "one place, the same Since", 1)
	p.insert(some(0, 3)...)
	p.advance(at(0, 0))
	p.still("the same", true)
	p.left(5, 5)
	p.weights("the same", 3)

	p = begun(t, "none", 1)
	p.left(5, 5)
	p.advance(at(3, 3))
	p.still("none", true)
	p.left(5, 5)
	p.weights("none")
}

func TestUnitedPlacesSettle(t *testing.T) { // P12.3: in Work, too
	p := begun(t, "settle in Work", 1)
	p.insert(some(0, 8)...)
	p.insert(some(8, 7)...)
	p.insert(some(15, 1)...)
	p.weights("three places", 8, 7, 1)
	p.left(1, 0) // 7 and 1 become one of level 4: finished, and merged with 8
	p.weights("settled", 8, 8)
	p.left(14, 0)
	p.weights("all but one", 8, 8)
	p.left(2, 1)
	p.weights("merged", 16)
	p.still("merged", true)
}

func TestAdvanceThenWork(t *testing.T) { // P12.3, P12.4: times that stand for one another come together
	p := begun(t, "advance", 1)
	p.insert(up(r(1), 0, 0, 1), up(r(1), 2, 0, 2), up(r(1), 0, 2, 3), up(r(2), 0, 0, 1))
	p.insert(up(r(2), 1, 0, -1))
	p.insert(up(r(3), 4, 4, 1))
	p.weights("inserted", 4, 1, 1)
	p.advance(at(0, 2), at(2, 0))
	p.work(high)
	p.has("two times", up(r(1), 0, 0, 1), up(r(1), 0, 2, 3), up(r(1), 2, 0, 2), up(r(2), 0, 0, 1), up(r(2), 1, 0, -1), up(r(3), 4, 4, 1))
	p.advance(at(2, 2))
	p.has("not worked on yet", up(r(1), 0, 0, 1), up(r(1), 0, 2, 3), up(r(1), 2, 0, 2), up(r(2), 0, 0, 1), up(r(2), 1, 0, -1), up(r(3), 4, 4, 1))
	p.still("not worked on yet", false)
	p.work(high)
	p.has("one time", up(r(1), 2, 2, 6), up(r(3), 4, 4, 1))
	p.weights("one time", 6)
	p.still("one time", true)
	if c, e := p.sp.At(at(2, 2)); e != api.OK || !sameCounts(c, []api.Count{{Row: r(1), Diff: 6}}) {
		t.Errorf("%s, error %d", told(c), int(e))
	}
	p.insert(up(r(1), 0, 0, -6), up(r(3), 0, 0, 1))
	p.has("inserted behind it", up(r(1), 2, 2, 6), up(r(3), 4, 4, 1), up(r(1), 2, 2, -6), up(r(3), 2, 2, 1))
	p.work(high)
	p.has("come to nothing", up(r(3), 2, 2, 1), up(r(3), 4, 4, 1))
}

func TestAllComesToNothing(t *testing.T) { // P12.3, P12.6: a batch without a change, which weighs something
	p := begun(t, "nothing", 1)
	p.insert(up(r(1), 0, 0, 5), up(r(2), 0, 1, 5))
	p.insert(up(r(1), 1, 0, -5), up(r(2), 1, 0, -5))
	p.work(3)
	p.advance(at(1, 1))
	p.work(high)
	p.has("advanced")
	p.weights("advanced", 4)
	p.still("advanced", true)
	p.insert(one(1, 1))
	p.weights("one more", 4, 1)
	p.left(1, 0)
	p.weights("merged", 5)
}

func TestAdvanceWhileTwoAreBeingMerged(t *testing.T) { // P12.2, P12.3: that merge keeps the since that it began with
	for _, fuels := range [][]int{{}, {1}, {1, 1}} {
		p := begun(t, "advance within", 1)
		p.advance(at(1, 0))
		p.insert(up(r(1), 0, 0, 1), up(r(1), 2, 0, 1), up(r(2), 0, 0, 1))
		p.insert(up(r(1), 0, 0, 1), up(r(1), 3, 0, 1), up(r(3), 0, 0, 1))
		for _, fuel := range fuels {
			p.left(fuel, 0)
		}
		p.advance(at(3, 0))
		for len(p.sp.Batches()) == 2 {
			p.left(1, 0)
		}
		if got := p.sp.Batches()[0].Since(); !slices.Equal(got, times{at(1, 0)}) {
			t.Fatalf("Since is %v", got)
		}
		p.has("merged", up(r(1), 1, 0, 2), up(r(1), 2, 0, 1), up(r(1), 3, 0, 1), up(r(2), 1, 0, 1), up(r(3), 1, 0, 1))
		p.still("merged", false)
		p.left(1, 0)
		p.weights("with an empty one", 6, 0)
		p.left(5, 3)
		p.has("merged again", up(r(1), 3, 0, 4), up(r(2), 3, 0, 1), up(r(3), 3, 0, 1))
		p.still("merged again", true)
	}
	// What is united takes since as it is then.
	p := begun(t, "as it is then", 1)
	p.insert(up(r(1), 0, 0, 1))
	p.insert(up(r(2), 0, 0, 1))
	p.insert(up(r(1), 1, 0, 1))
	p.advance(at(1, 0))
	p.insert(up(r(2), 0, 0, 1))
	p.weights("united", 2, 2)
	var sinces []times
	for _, b := range p.sp.Batches() {
		sinces = append(sinces, b.Since())
	}
	if !slices.Equal(sinces[0], times{at(0, 0)}) || !slices.Equal(sinces[1], times{at(1, 0)}) {
		t.Fatalf("Since %v", sinces)
	}
	p.advance(at(2, 0))
	p.left(4, 0)
	p.has("merged", up(r(1), 1, 0, 2), up(r(2), 1, 0, 2))
	p.still("merged", false)
}

func TestWhatIsToldWhileMergesGoOn(t *testing.T) { // P12.5: the changes of both batches, whatever is done of them
	for fuel := range 20 {
		p := begun(t, "while merges go on", 1)
		p.insert(up(r(1, "a"), 0, 0, 1), up(r(2, "a"), 0, 0, 1), up(r(1, "b"), 1, 0, 2), up(r(3), 0, 0, 4))
		p.insert(up(r(1, "a"), 0, 0, -1), up(r(2, "a"), 0, 1, 1), up(r(1, "c"), 1, 0, 2), up(r(4), 0, 0, 4))
		p.insert(up(r(1, "a"), 0, 2, 9), up(r(5), 0, 0, 1))
		p.insert(up(r(1, "d"), 0, 2, 9), up(r(3), 0, 0, -4))
		p.weights("inserted", 4, 4, 2, 2)
		if got := p.sp.Run(r(1)); !sameUps(got, ups{
			up(r(1, "a"), 0, 0, 1), up(r(1, "b"), 1, 0, 2), up(r(1, "a"), 0, 0, -1), up(r(1, "c"), 1, 0, 2), up(r(1, "a"), 0, 2, 9), up(r(1, "d"), 0, 2, 9),
		}) {
			t.Fatalf("Run is %s", told(got))
		}
		p.work(fuel)
		p.work(1)
		p.insert(up(r(1, "a"), 0, 0, 7))
		for range fuel {
			p.work(1)
		}
		if c, e := p.sp.At(at(0, 2)); e != api.OK || !sameCounts(c, []api.Count{
			{Row: r(1, "a"), Diff: 16}, {Row: r(1, "d"), Diff: 9}, {Row: r(2, "a"), Diff: 2}, {Row: r(4), Diff: 4}, {Row: r(5), Diff: 1},
		}) {
			t.Fatalf("At: %s, error %d", told(c), int(e))
		}
	}
}

func TestRun(t *testing.T) { // P12.5: keys that are there, and that are not
	p := begun(t, "Run", 2)
	p.insert(up(r(1, "a", 5), 0, 0, 1), up(r(1, "b"), 0, 0, 2), up(r(2, "a"), 0, 0, 3), up(r(4, "a"), 0, 0, 4))
	p.insert(up(r(1, "a", 4), 0, 0, 5), up(r(2, "a"), 0, 1, 6))
	p.insert(up(r(1, "a"), 0, 0, 7))
	for _, k := range []struct {
		key  api.Row
		want ups
	}{
		{r(1, "a"), ups{up(r(1, "a", 5), 0, 0, 1), up(r(1, "a", 4), 0, 0, 5), up(r(1, "a"), 0, 0, 7)}},
		{r(1, "b"), ups{up(r(1, "b"), 0, 0, 2)}},
		{r(2, "a"), ups{up(r(2, "a"), 0, 0, 3), up(r(2, "a"), 0, 1, 6)}},
		{r(4, "a"), ups{up(r(4, "a"), 0, 0, 4)}},
		{r(0, "a"), nil}, {r(3, "a"), nil}, {r(9, "a"), nil}, {r(1, "c"), nil}, {r(1), nil}, {nil, nil}, {r(1, "a", 5), nil}, {r("1", "a"), nil},
		{api.Row{{Kind: 1, Int: 1}, {Kind: 9}}, nil},
		{api.Row{{Kind: api.KindInt, Int: 1, Str: "plays no part"}, {Kind: api.KindStr, Int: 7, Str: "b"}}, ups{up(r(1, "b"), 0, 0, 2)}},
	} {
		if got := p.sp.Run(k.key); !sameUps(got, k.want) {
			t.Errorf("Run of %v: %s, want %s", k.key, told(got), told(k.want))
		}
	}
}

func TestTheEmptyKey(t *testing.T) { // P12.1, P12.5: key 0: all rows have it, that without a value too
	p := begun(t, "key 0", 0)
	p.insert(up(nil, 0, 0, 1), up(r(1), 0, 0, 2))
	p.insert(up(r(1, 2), 0, 0, 3))
	p.insert(up(nil, 0, 0, -1), up(r("z"), 1, 0, 4))
	for _, key := range []api.Row{nil, {}} {
		if got := p.sp.Run(key); !sameUps(got, p.m.ups()) || len(got) != 5 {
			t.Errorf("Run is %s", told(got))
		}
	}
	if got := p.sp.Run(r(1)); len(got) != 0 {
		t.Errorf("Run of a key with a value is %s", told(got))
	}
	p.work(high)
	p.has("merged", up(r(1), 0, 0, 2), up(r(1, 2), 0, 0, 3), up(r("z"), 1, 0, 4))
}

func TestEachKeyNumber(t *testing.T) { // P12.1: from 0 to MaxCols
	long := make(api.Row, api.MaxCols)
	for i := range long {
		long[i] = n(i)
	}
	for key := range api.MaxCols + 1 {
		p := begun(t, fmt.Sprint("key ", key), key)
		p.insert(up(long, 0, 0, 1), up(row.Join(long, r(1)), 0, 0, 2))
		p.insert(up(long[:key], 0, 0, 3))
		p.insert(up(row.Join(long, r(1)), 0, 0, 2))
		p.advance(at(1, 1))
		p.work(high)
		p.still("merged", true)
		if key == 0 {
			continue
		}
		if e := p.sp.Insert(ups{up(long, 0, 0, 1), up(long[:key-1], 0, 0, 1)}); e != api.ErrRange {
			t.Errorf("key %d: error %d", key, int(e))
		}
		p.hold("a row that is too short")
	}
}

func TestKeysThatMayNotBe(t *testing.T) { // P12.1: ErrArg, and the spine is nil
	for _, key := range []int{-1, -2, low, api.MaxCols + 1, api.MaxCols + 2, high} {
		if sp, e := spine.New(key); sp != nil || e != api.ErrArg {
			t.Errorf("New(%d): %v, error %d", key, sp != nil, int(e))
		}
	}
}

func TestTheEmptySpine(t *testing.T) { // P12.1: every call
	sp, e := spine.New(1)
	if e != api.OK {
		t.Fatal(int(e))
	}
	for range 2 {
		if got := sp.Since(); !slices.Equal(got, times{at(0, 0)}) {
			t.Errorf("Since %v", got)
		}
		if len(sp.Batches()) != 0 || len(sp.Ups()) != 0 || len(sp.Run(r(1))) != 0 || len(sp.Run(nil)) != 0 || sp.Total() != 0 || !sp.Still() {
			t.Errorf("%v, %v, Total %d, Still %v", sp.Batches(), sp.Ups(), sp.Total(), sp.Still())
		}
		if c, e := sp.At(at(0, 0)); len(c) != 0 || e != api.OK {
			t.Errorf("At: %v, error %d", c, int(e))
		}
		for _, fuel := range []int{1, 7, high} {
			if left, e := sp.Work(fuel); left != fuel || e != api.OK {
				t.Errorf("Work(%d) = %d, error %d", fuel, left, int(e))
			}
		}
		for _, fuel := range []int{0, -1, low} {
			if left, e := sp.Work(fuel); left != 0 || e != api.OK {
				t.Errorf("Work(%d) = %d, error %d", fuel, left, int(e))
			}
		}
		if sp.Insert(nil) != api.OK || sp.Insert(ups{}) != api.OK || sp.Advance(times{at(0, 0)}) != api.OK {
			t.Error("an error of nothing")
		}
	}
}

func TestInsertOfNoChange(t *testing.T) { // P12.2: nothing is done
	p := begun(t, "no change", 1)
	p.insert()
	for i := range 6 {
		p.insert(one(i, 1))
		p.insert()
		if e := p.sp.Insert(make(ups, 0, 4)); e != api.OK {
			t.Fatal(int(e))
		}
		p.hold("an empty list")
	}
	p.weights("nothing is done", 2, 2, 1, 1)
	p.work(1)
	p.insert()
	p.work(high)
	p.insert()
	p.still("nothing is done", true)
	p.advance()
	p.insert()
}

func TestChangesThatComeToNothing(t *testing.T) { // P12.2, P12.4: they count in Total and in the weight
	p := begun(t, "nothing", 1)
	p.insert(one(1, 1), one(1, -1))
	p.weights("nothing", 2)
	p.has("nothing")
	if p.sp.Total() != 2 {
		t.Errorf("Total %d", p.sp.Total())
	}
	p.still("nothing", true)
	p.insert(one(1, 0))
	p.weights("a change of 0", 2, 1)
	p.insert(one(2, 5), one(2, -2), one(2, -3), one(3, 1))
	p.weights("three that come to nothing", 2, 5)
	p.has("three that come to nothing", one(3, 1))
	if p.sp.Total() != 7 {
		t.Errorf("Total %d", p.sp.Total())
	}
	p.left(1, 0)
	p.weights("merged", 7)

	// Two batches without a change are merged as soon as there is any fuel, and take none of it.
	p = begun(t, "two of nothing", 1)
	p.insert(one(1, 0))
	p.insert(one(1, 0))
	p.weights("being merged", 1, 1)
	p.still("being merged", false)
	p.left(0, 0)
	p.left(-1, 0)
	p.weights("without fuel", 1, 1)
	p.left(1, 1)
	p.weights("merged", 2)
	p.still("merged", true)

	// And so is one whose times would come to be others.
	p.advance(at(1, 1))
	p.still("advanced", false)
	p.left(1, 1)
	p.weights("merged with an empty one", 2)
	p.still("merged with an empty one", true)

	// They settle like others.
	p = begun(t, "heavy nothing", 1)
	p.insert(some(1, 3)...)
	p.insert(one(1, 0), one(1, 0), one(1, 0), one(1, 0))
	p.insert(one(9, 1))
	p.weights("settled", 3, 4, 1)
	p.insert(one(1, 2), one(1, -2), one(1, 0), one(1, 0))
	p.weights("settled again", 7, 5)
}

func TestFuelThatIsNone(t *testing.T) { // P12.3: 0 and below do nothing, and nothing is left
	for _, fuel := range []int{0, -1, -5, low + 1, low} {
		p := begun(t, "no fuel", 1)
		p.left(fuel, 0)
		for i := range 7 {
			p.insert(one(i, 1))
			p.left(fuel, 0)
		}
		p.weights("nothing is done", 2, 2, 1, 1, 1)
		p.left(3, 0)
		p.left(fuel, 0)
		p.left(100, 100-13)
		p.left(fuel, 0)
		p.still("nothing is to be done", true)
		p.advance(at(1, 0))
		p.left(fuel, 0)
		p.still("advanced", false)
	}
}

func TestWorkOnAStillSpine(t *testing.T) { // P12.3: all of the fuel is left
	p := begun(t, "still", 1)
	for i := range 5 {
		p.insert(one(i, 1))
	}
	p.work(high)
	p.still("worked on", true)
	for _, fuel := range []int{1, 2, 5, 1000, high - 1, high} {
		p.left(fuel, fuel)
		p.weights("worked on again", 5)
	}
}

func TestAdvance(t *testing.T) { // P12.4: further and further, to the same, to none
	p := begun(t, "advance", 1)
	p.insert(up(r(1), 0, 0, 1), up(r(1), 3, 1, 1), up(r(2), 1, 4, 2))
	for _, f := range []times{{at(0, 0)}, {at(0, 0)}, {at(0, 1), at(1, 0)}, {at(0, 1), at(1, 0)}, {at(0, 3), at(1, 1), at(4, 0)}, {at(1, 3)}, {at(1, 3)}, {at(1, 5), at(2, 4), at(3, 3)}, {at(api.MaxTime, api.MaxTime)}} {
		p.advance(f...)
		for _, late := range f {
			p.asked = append(p.asked, late, at(late.Epoch-1, late.Round), at(late.Epoch, late.Round-1), at(late.Epoch+1, late.Round))
		}
		p.hold("asked for more")
		p.insert(up(r(3), 0, 0, 1))
		p.work(1)
	}
}

func TestAdvanceToAnEmptyFrontier(t *testing.T) { // P12.4: nothing may be asked for any more, and nothing leads back
	p := begun(t, "no time", 1)
	p.insert(up(r(1), 0, 0, 1), up(r(1), 3, 1, 1), up(r(2), 1, 4, 2))
	p.advance()
	p.still("advanced", false)
	for _, x := range []api.Time{at(0, 0), at(5, 5), at(api.MaxTime, api.MaxTime), at(high, high)} {
		if c, e := p.sp.At(x); len(c) != 0 || e != api.ErrCompacted {
			t.Errorf("At %v: %s, error %d", x, told(c), int(e))
		}
		if e := p.sp.Advance(times{x}); e != api.ErrTime {
			t.Errorf("Advance to %v: error %d", x, int(e))
		}
	}
	p.hold("refused")
	p.advance()
	p.left(1, 0)
	p.weights("merged with an empty one", 3, 0)
	p.left(9, 8)
	p.has("times stay as they are", up(r(1), 0, 0, 1), up(r(1), 3, 1, 1), up(r(2), 1, 4, 2))
	p.still("merged", true)
	p.insert(up(r(1), 0, 0, 1), up(r(1), 3, 1, -1))
	p.work(high)
	p.has("inserted behind it", up(r(1), 0, 0, 2), up(r(2), 1, 4, 2))
	p.still("inserted behind it", true)
}

// wide is a frontier of so many times.
func wide(many int) times {
	var f times
	for i := range many {
		f = append(f, at(i, many-1-i))
	}
	return f
}

func TestFrontiersThatMayNotBe(t *testing.T) { // P12.4: front.Check's error, and nothing has changed
	p := begun(t, "refused", 1)
	p.insert(one(1, 1), up(r(1), 2, 2, 1))
	p.insert(one(2, 1))
	refuse := func() {
		t.Helper()
		for want, list := range map[api.Errno][]times{
			api.ErrMany: {wide(api.MaxFront + 1), append(wide(api.MaxFront), at(-1, -1))},
			api.ErrTime: {{at(-1, 0)}, {at(0, -1)}, {at(api.MaxTime+1, 0)}, {at(0, api.MaxTime+1)}, {at(low, high)}, {at(0, 0), at(0, 0), at(-1, 0)}},
			api.ErrForm: {{at(0, 0), at(0, 0)}, {at(2, 0), at(0, 2)}, {at(0, 0), at(1, 1)}, {at(0, 2), at(1, 2)}},
		} {
			for _, f := range list {
				if e := front.Check(f); e != want {
					t.Fatalf("the test's own list: %s: %d", told(f), int(e))
				}
				if e := p.sp.Advance(f); e != want {
					t.Errorf("Advance to %s: error %d, want %d", told(f), int(e), int(want))
				}
				p.hold("refused")
			}
		}
	}
	refuse()
	p.advance(wide(api.MaxFront)...)
	refuse()
	p.work(1)
	refuse()
	p.advance()
	refuse()
}

func TestAdvanceBack(t *testing.T) { // P12.4: ErrTime, where since is not front.LessEq to it
	p := begun(t, "back", 1)
	p.insert(one(1, 1), up(r(1), 2, 2, 1))
	for _, k := range []struct {
		since   times
		refused []times
	}{
		{times{at(1, 1)}, []times{{at(0, 0)}, {at(1, 0)}, {at(0, 1)}, {at(0, 5)}, {at(5, 0)}, {at(0, 5), at(1, 1)}, {at(0, 5), at(5, 0)}, {at(1, 1), at(2, 0)}}},
		{times{at(1, 3), at(3, 1)}, []times{{at(1, 1)}, {at(2, 2)}, {at(1, 3), at(2, 2)}, {at(0, 9), at(3, 1)}, {at(1, 3), at(9, 0)}}},
		{times{at(3, 3)}, []times{{at(1, 3), at(3, 1)}, {at(3, 2)}, {at(2, 3)}, {at(2, 9), at(3, 3)}}},
	} {
		p.advance(k.since...)
		for _, f := range k.refused {
			if e := p.sp.Advance(f); e != api.ErrTime {
				t.Errorf("since %v: Advance to %v: error %d", k.since, f, int(e))
			}
			p.hold("refused")
		}
		p.work(1)
	}
}

func TestAtTheEdgesOfSince(t *testing.T) { // P12.5: just in advance of it, and just not
	p := begun(t, "edges", 1)
	p.insert(one(1, 1), up(r(1), 2, 3, 1), up(r(2), 3, 2, 1))
	for _, k := range []struct {
		since      times
		told, gone times
	}{
		{times{at(0, 0)}, times{at(0, 0), at(0, 9), at(9, 0), at(high, high)}, times{at(-1, 0), at(0, -1), at(low, high), at(high, low)}},
		{times{at(2, 2)}, times{at(2, 2), at(3, 2), at(2, 3), at(api.MaxTime+1, high)}, times{at(1, 2), at(2, 1), at(1, 9), at(9, 1), at(0, 0), at(-1, -1)}},
		{times{at(2, 5), at(5, 2)}, times{at(2, 5), at(5, 2), at(4, 5), at(5, 4)}, times{at(4, 4), at(2, 4), at(1, 5), at(5, 1), at(4, 2), at(2, 2)}},
		{times{}, nil, times{at(0, 0), at(5, 5), at(high, high)}},
	} {
		p.advance(k.since...)
		for _, x := range k.told {
			want, wantError := zset.At(p.m.all, x)
			if c, e := p.sp.At(x); e != wantError || e != api.OK || !sameCounts(c, want) {
				t.Errorf("since %v, At %v: %s, error %d, want %s", k.since, x, told(c), int(e), told(want))
			}
		}
		for _, x := range k.gone {
			if c, e := p.sp.At(x); len(c) != 0 || e != api.ErrCompacted {
				t.Errorf("since %v, At %v: %s, error %d", k.since, x, told(c), int(e))
			}
		}
		p.hold("asked for")
		p.work(2)
	}
}

func TestChangesThatMayNotBe(t *testing.T) { // P12.2: the first error, and nothing has changed
	short, late, early := up(r(1), 0, 0, 1), up(r(1, 2), 0, api.MaxTime+1, 1), up(r(1, 2), -1, 0, 1)
	good := up(r(1, 2), 0, 0, 1)
	over := ups{up(r(1, 2), 0, 0, high), up(r(1, 2), 0, 0, 1)}
	for _, since := range []times{{at(0, 0)}, {at(1, 1)}, {}} {
		p := begun(t, "may not be", 2)
		p.great = true
		p.insert(up(r(1, 2), 0, 0, 1), up(r(1, 3), 0, 0, 1))
		p.insert(up(r(1, 2), 0, 0, 1))
		p.advance(since...)
		for range 3 {
			for _, k := range []struct {
				l    ups
				want api.Errno
			}{
				{ups{short}, api.ErrRange}, {ups{up(nil, 0, 0, 1)}, api.ErrRange}, {ups{good, short}, api.ErrRange}, {ups{short, good}, api.ErrRange},
				{ups{up(r(1), -1, 0, 1)}, api.ErrRange}, {ups{late, short}, api.ErrRange}, {ups{early, good, short}, api.ErrRange}, {append(slices.Clone(over), late, short), api.ErrRange},
				{ups{late}, api.ErrTime}, {ups{early}, api.ErrTime}, {ups{good, late}, api.ErrTime}, {ups{early, good}, api.ErrTime}, {append(slices.Clone(over), late), api.ErrTime},
				{ups{up(r(1, 2), low, high, 1)}, api.ErrTime}, {ups{up(r(1, 2), api.MaxTime+1, 0, 1)}, api.ErrTime}, {ups{up(r(1, 2), 0, -1, 1)}, api.ErrTime},
				{over, api.ErrOver}, {append(ups{good}, over...), api.ErrOver}, {ups{up(r(1, 2), 0, 0, low), up(r(1, 2), 0, 0, -1)}, api.ErrOver},
				{ups{up(r(1, 2), 0, 0, high), good, up(r(1, 2), 0, 0, -1)}, api.ErrOver},
			} {
				if e := p.sp.Insert(k.l); e != k.want {
					t.Fatalf("since %v: Insert of %s: error %d, want %d", since, told(k.l), int(e), int(k.want))
				}
				p.hold("refused")
			}
			p.insert(good)
			p.work(2)
		}
	}
}

func TestSumsThatAreTooGreatBySince(t *testing.T) { // P12.2: batch.New's error of l and since
	l := ups{up(r(1), 0, 0, high), up(r(1), 1, 0, 1)}
	p := begun(t, "by since", 1)
	p.great = true
	p.insert(l...)
	p.advance(at(1, 0))
	if e := p.sp.Insert(l); e != api.ErrOver {
		t.Fatalf("error %d", int(e))
	}
	p.hold("refused")
	p.insert(up(r(2), 0, 0, 1)) // it has not broken
	// Added in their order it is not too great.
	p = begun(t, "by since, in order", 1)
	p.great = true
	p.advance(at(1, 0))
	p.insert(up(r(1), 1, 0, -1), up(r(1), 0, 0, high), up(r(1), 0, 0, 1))
	p.has("in order", up(r(1), 1, 0, high))
}

func TestTimesAtTheEdges(t *testing.T) { // P12.2: what moment.Check takes, and times that are not in advance of since
	p := begun(t, "edges", 1)
	p.insert(up(r(1), api.MaxTime, api.MaxTime, 1), up(r(1), 0, api.MaxTime, 1), up(r(1), api.MaxTime, 0, 1), up(r(1), 0, 0, 1))
	p.advance(at(5, 5))
	p.insert(up(r(1), 0, 9, 1), up(r(1), 4, 4, 1))
	p.has("inserted", up(r(1), 0, 0, 1), up(r(1), 0, api.MaxTime, 1), up(r(1), api.MaxTime, 0, 1), up(r(1), api.MaxTime, api.MaxTime, 1), up(r(1), 5, 5, 1), up(r(1), 5, 9, 1))
	p.work(high)
	p.advance(at(api.MaxTime, api.MaxTime))
	p.work(high)
	p.has("all are one", up(r(1), api.MaxTime, api.MaxTime, 6))
}

// holdBroken asks a spine that has broken all that it may be asked.
func (p *pair) holdBroken(step string) {
	p.t.Helper()
	if !p.m.broken {
		p.t.Fatalf("%s, %s: the test's own case: the model has not broken", p.name, step)
	}
	p.great = true
	for _, fuel := range []int{1, 0, -1, low, 14, high} {
		p.work(fuel)
		if left, e := p.sp.Work(fuel); left != 0 || e != api.ErrOver {
			p.t.Fatalf("%s, %s: Work(%d) = %d, error %d", p.name, step, fuel, left, int(e))
		}
	}
	for _, l := range []ups{nil, {}, {one(99, 1)}, {up(nil, 0, 0, 1)}, {up(r(1), -1, 0, 1)}, {one(1, high), one(1, high)}} {
		if e := p.sp.Insert(l); e != api.ErrOver {
			p.t.Fatalf("%s, %s: Insert of %s: error %d", p.name, step, told(l), int(e))
		}
		p.hold(step + ", Insert")
	}
	p.still(step, false)
	if e := p.sp.Advance(times{at(0, 0)}); e != api.OK && e != api.ErrTime {
		p.t.Fatalf("%s, %s: Advance: error %d", p.name, step, int(e))
	}
	p.advance(at(8, 8))
	p.advance()
	p.work(5)
	p.still(step, false)
}

func TestBrokenByWork(t *testing.T) { // P12.3: from then on that error is told by Insert and Work
	for _, fuel := range []int{1, 2, 9, high} {
		p := begun(t, "two that are too great", 1)
		p.great = true
		p.insert(one(1, 1<<62))
		p.insert(one(1, 1<<62))
		p.still("ahead of it", false)
		p.left(0, 0)
		p.work(fuel)
		p.has("nothing is lost", one(1, 1<<62), one(1, 1<<62))
		if c, e := p.sp.At(at(0, 0)); len(c) != 0 || e != api.ErrOver {
			t.Errorf("At: %v, error %d", c, int(e))
		}
		p.holdBroken("broken")
	}
	p := begun(t, "rows ahead of it", 1)
	p.great = true
	p.insert(one(1, 1), one(2, high), one(3, 1), one(4, 1))
	p.insert(one(1, 1), one(2, 1), one(3, 1), one(4, 1))
	p.left(2, 0)
	p.work(1)
	p.holdBroken("broken")

	p = begun(t, "two places", 1)
	p.great = true
	p.insert(one(1, 1), one(2, low), one(3, 1))
	p.insert(one(2, -1))
	p.weights("two places", 3, 1)
	p.left(1, 0)
	p.work(1)
	p.holdBroken("broken")

	p = begun(t, "with an empty one", 1)
	p.great = true
	p.insert(one(2, high), up(r(2), 1, 0, 1))
	p.still("ahead of it", true)
	p.advance(at(1, 0))
	p.work(1)
	p.weights("broken", 2, 0)
	p.has("nothing is lost", one(2, high), up(r(2), 1, 0, 1))
	p.holdBroken("broken")

	p = begun(t, "where what is united settles", 1)
	p.great = true
	p.insert(some(10, 8)...)
	p.insert(append(some(20, 6), one(1, high))...)
	p.insert(one(1, 1))
	p.weights("three places", 8, 7, 1)
	p.work(1)
	p.holdBroken("broken")
}

func TestBrokenByInsert(t *testing.T) { // P12.2, P12.3: where a place that must be finished breaks
	p := begun(t, "the place ahead", 1)
	p.great = true
	p.insert(one(1, high))
	p.insert(one(1, 1))
	p.insert(one(2, 1))
	if e := p.sp.Insert(ups{one(3, 1)}); e != api.ErrOver {
		t.Fatalf("error %d", int(e))
	}
	p.m.insert(ups{one(3, 1)})
	p.hold("broken")
	p.has("nothing is lost", one(1, high), one(1, 1), one(2, 1), one(3, 1))
	p.holdBroken("broken")

	p = begun(t, "the last place", 1)
	p.great = true
	p.insert(some(10, 2)...)
	p.insert(one(1, low))
	if e := p.sp.Insert(ups{one(1, -1)}); e != api.ErrOver {
		t.Fatalf("error %d", int(e))
	}
	p.m.insert(ups{one(1, -1)})
	p.holdBroken("broken")
	if p.sp.Total() != 4 {
		t.Errorf("Total %d", p.sp.Total())
	}

	p = begun(t, "nothing breaks while nothing need be finished", 1)
	p.great = true
	p.insert(one(1, high))
	p.insert(one(1, high))
	p.insert(one(2, 1))
	p.still("not broken", false)
	p.left(0, 0)
	p.insert()
}

func TestNilSpine(t *testing.T) { // P12.1: ErrNil, zeros, nothing
	var sp *spine.Spine
	for _, l := range []ups{nil, {one(1, 1)}, {up(nil, -1, -1, 1)}, {one(1, high), one(1, high)}} {
		if e := sp.Insert(l); e != api.ErrNil {
			t.Errorf("Insert: error %d", int(e))
		}
	}
	for _, fuel := range []int{0, 1, -1, low, high} {
		if left, e := sp.Work(fuel); left != 0 || e != api.ErrNil {
			t.Errorf("Work(%d): %d, error %d", fuel, left, int(e))
		}
	}
	for _, f := range []times{nil, {at(0, 0)}, {at(-1, 0)}, wide(api.MaxFront + 1)} {
		if e := sp.Advance(f); e != api.ErrNil {
			t.Errorf("Advance: error %d", int(e))
		}
	}
	for _, x := range []api.Time{{}, at(-1, -1), at(high, high)} {
		if c, e := sp.At(x); len(c) != 0 || e != api.ErrNil {
			t.Errorf("At: %v, error %d", c, int(e))
		}
	}
	if len(sp.Since()) != 0 || len(sp.Batches()) != 0 || len(sp.Run(nil)) != 0 || len(sp.Run(r(1))) != 0 || len(sp.Ups()) != 0 || sp.Total() != 0 || sp.Still() {
		t.Error("a nil spine tells something")
	}
}

func TestWhatNoCallMade(t *testing.T) { // the rule of ends: what it answers is open, but it answers
	sp := new(spine.Spine)
	for range 3 {
		for _, l := range []ups{nil, {one(1, 1)}, {up(nil, -1, -1, 1)}, {one(1, high), one(2, high)}, some(0, 5)} {
			sp.Insert(l)
		}
		for _, fuel := range []int{0, 1, -1, low, high} {
			sp.Work(fuel)
		}
		sp.Advance(nil)
		sp.Advance(times{at(1, 1)})
		sp.At(at(5, 5))
		sp.Run(r(1))
		sp.Run(nil)
		sp.Ups()
		sp.Since()
		sp.Batches()
		sp.Total()
		sp.Still()
	}
}

func TestRowsThatDifferWhereItPlaysNoPart(t *testing.T) { // the rule of rows: they are one row
	p := begun(t, "laden", 1)
	for by := range 9 {
		p.insert(
			api.Up{Row: api.Row{{Kind: api.KindInt, Int: 1, Str: string(rune('a' + by))}, {Kind: api.KindStr, Int: by, Str: "x"}}, Diff: 1},
			api.Up{Row: api.Row{{Kind: 7, Int: by, Str: string(rune('z' - by))}}, Diff: 1},
		)
		p.work(by)
	}
	p.work(high)
	p.has("merged", up(r(1, "x"), 0, 0, 9), up(api.Row{{Kind: 7}}, 0, 0, 9))
}

// roomy is a list with spare room behind it, filled by what must stay there.
func roomy[T any](l []T, fill T) []T {
	room := append(make([]T, 0, len(l)+3), l...)
	spare := room[:cap(room)]
	for i := len(l); i < len(spare); i++ {
		spare[i] = fill
	}
	return room
}

// roomyUps are changes whose list and rows have spare room.
func roomyUps(l ups) ups {
	l = roomy(l, up(r("spare"), 7, 7, 7))
	for i := range l {
		l[i].Row = roomy(l[i].Row, s("spare"))
	}
	return l
}

// whole is a list of changes, spare room too, as a text.
func whole(l ups) string {
	var text strings.Builder
	for _, u := range l[:cap(l)] {
		fmt.Fprintln(&text, u.Row[:cap(u.Row)], u.Time, u.Diff)
	}
	return text.String()
}

func TestWhatIsHandedInIsNotKept(t *testing.T) { // the rule of memory: neither changed nor kept
	for fuel := range 9 {
		p := begun(t, "handed in", 1)
		given := ups{up(r(2, "b"), 0, 0, 1), up(r(1, "a"), 1, 0, 1), up(r(1, "a"), 0, 0, 2)}
		for i := range 5 {
			l := roomyUps(given[i%3:])
			was := whole(l)
			if want, e := p.m.insert(slices.Clone(given[i%3:])), p.sp.Insert(l); e != want {
				t.Fatalf("error %d", int(e))
			}
			if whole(l) != was {
				t.Fatalf("%s has become %s", was, whole(l))
			}
			spoilUps(l)
			p.hold("changes written over")
			p.work(fuel)

			f := roomy(times{at(0, i+1), at(i+1, 0)}, at(77, 77))
			wasTimes := slices.Clone(f[:cap(f)])
			if e := p.sp.Advance(f); e != api.OK {
				t.Fatalf("error %d", int(e))
			}
			p.m.since = slices.Clone(f)
			if !slices.Equal(f[:cap(f)], wasTimes) {
				t.Fatalf("%v has become %v", wasTimes, f[:cap(f)])
			}
			spoilTimes(f)
			p.hold("a frontier written over")
			p.work(fuel)

			key := roomy(r(1), s("spare"))
			wasKey := fmt.Sprint(key[:cap(key)])
			p.sp.Run(key)
			if got := fmt.Sprint(key[:cap(key)]); got != wasKey {
				t.Fatalf("%s has become %s", wasKey, got)
			}
			spoilRow(key)
			p.hold("a key written over")
		}
		p.work(high)
	}
}

func TestRefusedIsNotKept(t *testing.T) { // the rule of memory: nor changed, where an error is answered
	p := begun(t, "refused", 1)
	p.great = true
	for _, l := range []ups{{one(1, 1), up(nil, 0, 0, 1)}, {one(1, 1), up(r(1), -1, 0, 1)}, {one(1, high), one(1, 1)}} {
		l = roomyUps(l)
		was := whole(l)
		if e := p.sp.Insert(l); e == api.OK || whole(l) != was {
			t.Errorf("error %d, %s", int(e), whole(l))
		}
		p.hold("refused")
	}
}

func spoilRow(l api.Row) {
	_ = append(l, s("spoilt"), s("spoilt"))
	for i := range l[:cap(l)] {
		l[:cap(l)][i] = s("spoilt")
	}
}

func spoilUps(l ups) {
	for _, u := range l {
		spoilRow(u.Row)
	}
	_ = append(l, up(r("spoilt"), -1, -1, -1))
	for i := range l[:cap(l)] {
		l[:cap(l)][i] = up(r("spoilt"), -1, -1, -1)
	}
}

func spoilTimes(l times) {
	_ = append(l, at(-8, -8))
	for i := range l[:cap(l)] {
		l[:cap(l)][i] = at(-8, -8)
	}
}

func spoilCounts(l []api.Count) {
	for _, c := range l {
		spoilRow(c.Row)
	}
	_ = append(l, api.Count{Row: r("spoilt"), Diff: -1})
	for i := range l[:cap(l)] {
		l[:cap(l)][i] = api.Count{Row: r("spoilt"), Diff: -1}
	}
}

// spoil writes over and appends to all that a spine tells, the batches themselves too.
func spoil(sp *spine.Spine) {
	spoilUps(sp.Ups())
	spoilUps(sp.Run(r(1)))
	spoilUps(sp.Run(nil))
	spoilTimes(sp.Since())
	for _, x := range []api.Time{at(0, 0), at(9, 9)} {
		c, _ := sp.At(x)
		spoilCounts(c)
	}
	batches := sp.Batches()
	for _, b := range batches {
		for i, k := range b.Keys() {
			spoilRow(k)
			spoilUps(b.Run(i))
		}
		spoilUps(b.Ups())
		spoilTimes(b.Since())
		*b = batch.Batch{}
	}
	_ = append(batches, new(batch.Batch))
	for i := range batches[:cap(batches)] {
		batches[:cap(batches)][i] = nil
	}
}

func TestAnswersWrittenOver(t *testing.T) { // the rule of memory: the next answer tells the same
	for fuel := range 12 {
		p := begun(t, "written over", 1)
		for i := range 7 {
			p.insert(up(r(i%3, "a"), i, 0, 1), up(r(1), 0, i, 2))
			spoil(p.sp)
			p.hold("spoilt behind Insert")
			p.work(fuel)
			spoil(p.sp)
			p.hold("spoilt behind Work")
		}
		p.advance(at(3, 3))
		spoil(p.sp)
		p.hold("spoilt behind Advance")
		for !p.sp.Still() {
			p.work(3)
			spoil(p.sp)
			p.hold("spoilt at the end")
		}
	}
}

// places are where the values of answers lie, each of which may be told but once.
type places map[unsafe.Pointer]string

func takeAll[T any](t *testing.T, p places, name string, l []T) {
	t.Helper()
	for i := range l[:cap(l)] {
		place := unsafe.Pointer(&l[:cap(l)][i])
		if other, there := p[place]; there {
			t.Fatalf("%s lies where %s does", name, other)
		}
		p[place] = name
	}
}

func (p places) takeUps(t *testing.T, name string, l ups) {
	t.Helper()
	takeAll(t, p, name, l)
	for _, u := range l {
		takeAll(t, p, name+"'s row", u.Row)
	}
}

func TestAnswersAreTheirOwn(t *testing.T) { // the rule of memory: no two of them share any
	// All that was told is kept, so that no memory is told twice only because it came to be free.
	var kept []any
	taken := places{}
	p := begun(t, "their own", 1)
	for i := range 7 {
		l := roomyUps(ups{up(r(1, "a"), i, 0, 1), up(r(2), 0, i, 2)})
		f := times{at(0, i), at(i, 0)}
		if i == 0 {
			f = times{at(0, 0)}
		}
		key := r(1)
		kept = append(kept, l, f, key)
		taken.takeUps(t, "what is inserted", l)
		takeAll(t, taken, "what it is advanced to", f)
		takeAll(t, taken, "a key", key)
		p.insert(l...)
		p.advance(f...)
		p.work(i)
		for range 2 {
			told, run, since, batches := p.sp.Ups(), p.sp.Run(key), p.sp.Since(), p.sp.Batches()
			counts, _ := p.sp.At(at(9, 9))
			kept = append(kept, told, run, since, batches, counts)
			taken.takeUps(t, "Ups", told)
			taken.takeUps(t, "Run", run)
			takeAll(t, taken, "Since", since)
			takeAll(t, taken, "Batches", batches)
			takeAll(t, taken, "At", counts)
			for _, c := range counts {
				takeAll(t, taken, "At's row", c.Row)
			}
			for _, b := range batches {
				if other, there := taken[unsafe.Pointer(b)]; there {
					t.Fatalf("a batch lies where %s does", other)
				}
				taken[unsafe.Pointer(b)] = "a batch"
				of, batchSince := b.Ups(), b.Since()
				kept = append(kept, of, batchSince)
				taken.takeUps(t, "a batch's Ups", of)
				takeAll(t, taken, "a batch's Since", batchSince)
			}
		}
	}
	if len(kept) == 0 {
		t.Fatal("nothing was told")
	}
}

func TestBatchesStayAsTheyWereTold(t *testing.T) { // the rule of memory: what comes behind does not change an answer
	p := begun(t, "as they were told", 1)
	var all []*batch.Batch
	var was []string
	tells := func(b *batch.Batch) string {
		return fmt.Sprint(b.Key(), b.Len(), b.Weight(), b.Since(), b.Keys(), b.Ups())
	}
	for i := range 9 {
		p.insert(up(r(i%3), i, 0, 1))
		p.work(i % 4)
		p.advance(at(i, 0))
		for _, b := range p.sp.Batches() {
			all, was = append(all, b), append(was, tells(b))
		}
	}
	p.work(high)
	for i, b := range all {
		if tells(b) != was[i] {
			t.Errorf("%s has become %s", was[i], tells(b))
		}
	}
}

func TestTwoSpines(t *testing.T) { // the rule of arguments: each is where its own calls have brought it
	first, second := begun(t, "the first one", 1), begun(t, "the second one", 1)
	for i := range 9 {
		l := ups{up(r(i%2), i, 0, 1), up(r(i), 0, i, 2)}
		first.insert(l...)
		second.hold("the other one's Insert")
		second.insert(l[:1]...)
		second.work(2)
		first.hold("the other one's Work")
		second.advance(at(i, i))
		first.hold("the other one's Advance")
	}
	first.work(high)
	second.hold("the other one's Work")
}

func TestStill(t *testing.T) { // P12.6: one batch at most, and in it one change at most for each row and each time that stands for others
	d := dice(5)
	for i := range 40 {
		p := begun(t, "still", 1)
		for range 1 + d.roll(30) {
			p.insert(d.someUps(1, 1+d.roll(5), false)...)
			p.work(d.roll(4))
		}
		p.advance(d.later(p.m.since)...)
		for many := 0; !p.sp.Still(); many++ {
			if left, e := p.sp.Work(1 + i); left != 0 && !p.sp.Still() || e != api.OK || many > 100000 {
				t.Fatalf("%d left, error %d", left, int(e))
			}
		}
		batches := p.sp.Batches()
		if len(batches) != 1 {
			t.Fatalf("%d batches", len(batches))
		}
		l := batches[0].Ups()
		for k, u := range l {
			if u.Diff == 0 || stands(p.m.since, u.Time) != u.Time || k > 0 && zset.Order(l[k-1], u) >= 0 {
				t.Fatalf("since %v: %s", p.m.since, told(l))
			}
		}
		want, e := zset.Consolidate(zset.Advance(p.m.all, p.m.since))
		if e != api.OK || !sameUps(l, want) || batches[0].Weight() != len(p.m.all) {
			t.Fatalf("since %v: %s, want %s", p.m.since, told(l), told(want))
		}
	}
}

func TestHowManyBatches(t *testing.T) { // P12.6: 2 log n and 2 at most, at each step
	for seed := range 30 {
		d := dice(uint64(seed))
		sp, _ := spine.New(0)
		most := 0
		for range 400 {
			size := 1
			if seed%3 > 0 {
				size += d.roll(1 << d.roll(6))
			}
			if e := sp.Insert(some(d.roll(9), size)); e != api.OK {
				t.Fatal(int(e))
			}
			many, bound := len(sp.Batches()), 2*(bits.Len(uint(sp.Total()))-1)+2
			if many > bound {
				t.Fatalf("%d batches of %d changes", many, sp.Total())
			}
			most = max(most, many)
			if seed%2 > 0 {
				sp.Work(d.roll(9))
			}
			if many := len(sp.Batches()); many > bound {
				t.Fatalf("%d batches of %d changes, worked on", many, sp.Total())
			}
		}
		if seed == 0 && most < 15 {
			t.Errorf("no more than %d batches: the bound was not come near", most)
		}
	}
}

// someRow has at least length values, from a small range.
func (d *dicer) someRow(length int) api.Row {
	var told api.Row
	for range length {
		told = append(told, []api.Val{n(d.roll(4) - 1), s(string(rune('a' + d.roll(2))))}[d.roll(5)/4])
	}
	return told
}

// someUps share rows and times, and some of them are great.
func (d *dicer) someUps(key, many int, great bool) ups {
	var l ups
	for range many {
		diff := d.roll(5) - 2
		if great && d.roll(3) == 0 {
			diff = []int{high, low, high / 2, low / 2}[d.roll(4)]
		}
		l = append(l, up(d.someRow(key+d.roll(2)), d.roll(5), d.roll(5), diff))
	}
	return l
}

// later is a frontier that may come behind one.
func (d *dicer) later(f times) times {
	var l times
	for range 1 + d.roll(3) {
		l = append(l, at(d.roll(5), d.roll(5)))
	}
	return front.Join(f, front.New(l))
}

// run does some calls, each held against the model; it tells whether the spine broke.
func (d *dicer) run(t *testing.T, key, steps int, great bool) bool {
	t.Helper()
	p := begun(t, "generated", key)
	p.great = great
	p.asked = append(p.asked, at(d.roll(6), d.roll(6)), at(d.roll(6), d.roll(6)))
	for range steps {
		switch d.roll(8) {
		case 0, 1, 2:
			p.insert(d.someUps(key, d.roll(3)*d.roll(5), great)...)
		case 3:
			p.insert(d.someUps(key, 1, great)...)
		case 4, 5:
			p.work(d.roll(9) - 1)
		case 6:
			p.work(d.roll(60))
		default:
			if d.roll(3) == 0 {
				p.advance(d.later(p.m.since)...)
			}
		}
	}
	p.work(high)
	if !p.m.broken {
		p.still("at the end", true)
	}
	return p.m.broken
}

func TestGenerated(t *testing.T) { // P12.1 to P12.6: whatever comes
	d := dice(12)
	broken := 0
	for i := range 300 {
		if d.run(t, d.roll(3), 30, i%2 == 0) {
			broken++
		}
	}
	if broken < 20 || broken > 200 {
		t.Errorf("%d broke", broken)
	}
}

func TestWhateverFuelCame(t *testing.T) { // P12.6: what At tells is what was inserted
	var all []ups
	var whole ups
	d := dice(7)
	for range 24 {
		l := d.someUps(1, 1+d.roll(4), false)
		all, whole = append(all, l), append(whole, l...)
	}
	for fuel := range 30 {
		sp, _ := spine.New(1)
		since := times{at(0, 0)}
		for i, l := range all {
			sp.Insert(l)
			if left, e := sp.Work(fuel); e != api.OK || left > fuel {
				t.Fatalf("%d left, error %d", left, int(e))
			}
			if i%6 == 5 {
				since = times{at(0, i/6), at(i/6, 0)}
				if i/6 == 0 {
					since = times{at(0, 0)}
				}
				if e := sp.Advance(since); e != api.OK {
					t.Fatalf("error %d", int(e))
				}
			}
		}
		for epoch := range 7 {
			for round := range 7 {
				want, _ := zset.At(whole, at(epoch, round))
				c, e := sp.At(at(epoch, round))
				if front.Ahead(since, at(epoch, round)) && (e != api.OK || !sameCounts(c, want)) {
					t.Fatalf("fuel %d, At (%d, %d): %s, error %d, want %s", fuel, epoch, round, told(c), int(e), told(want))
				}
			}
		}
	}
}

func TestMany(t *testing.T) { // P12.2, P12.5: long ones, of which no call looks through more than it needs
	const length = 20000
	sp, e := spine.New(1)
	if e != api.OK {
		t.Fatal(int(e))
	}
	for i := range length {
		if e := sp.Insert(ups{up(r(i*7919%length, "t"), i, 0, 1)}); e != api.OK {
			t.Fatal(int(e))
		}
		if got := sp.Run(r(i * 7919 % length)); len(got) != 1 {
			t.Fatalf("%d changes", len(got))
		}
	}
	if sp.Total() != length || len(sp.Ups()) != length {
		t.Fatalf("Total %d, %d changes", sp.Total(), len(sp.Ups()))
	}
	for i := range length {
		if got := sp.Run(r(i)); len(got) != 1 || got[0].Row[0].Int != i {
			t.Fatalf("%s", told(got))
		}
	}
	if e := sp.Advance(times{at(length, 0)}); e != api.OK {
		t.Fatal(int(e))
	}
	if left, e := sp.Work(high); left == 0 || e != api.OK || !sp.Still() {
		t.Fatalf("%d left, error %d", left, int(e))
	}
	if c, e := sp.At(at(length, 0)); e != api.OK || len(c) != length || len(sp.Batches()) != 1 {
		t.Fatalf("%d rows, error %d", len(c), int(e))
	}
}

func FuzzSpines(f *testing.F) {
	f.Add(uint64(1), 0, 9, false)
	f.Add(uint64(2), 1, 20, true)
	f.Add(uint64(3), 2, 40, false)
	f.Fuzz(func(t *testing.T, seed uint64, key, steps int, great bool) {
		dice(seed).run(t, key&3, steps&63, great)
	})
}

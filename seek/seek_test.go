package seek_test

import (
	"fmt"
	"math"
	"slices"
	"strings"
	"testing"
	"unsafe"

	"runnel/api"
	"runnel/batch"
	"runnel/row"
	"runnel/seek"
	"runnel/zset"
)

const (
	low  = math.MinInt
	high = math.MaxInt
)

type ups = []api.Up
type rows = []api.Row
type batches = []*batch.Batch

func n(x int) api.Val    { return api.Val{Kind: api.KindInt, Int: x} }
func s(x string) api.Val { return api.Val{Kind: api.KindStr, Str: x} }

// r is a row of numbers and texts.
func r(values ...any) api.Row {
	var told api.Row
	for _, v := range values {
		switch x := v.(type) {
		case int:
			told = append(told, n(x))
		case string:
			told = append(told, s(x))
		}
	}
	return told
}

// rs is rows of one number each.
func rs(numbers ...int) rows {
	var l rows
	for _, x := range numbers {
		l = append(l, r(x))
	}
	return l
}

func up(r api.Row, epoch, round, diff int) api.Up {
	return api.Up{Row: r, Time: api.Time{Epoch: epoch, Round: round}, Diff: diff}
}

// of is a batch that must be taken.
func of(t *testing.T, key int, l ...api.Up) *batch.Batch {
	t.Helper()
	b, e := batch.New(key, l, nil)
	if e != api.OK {
		t.Fatalf("batch of %s: error %d", told(l), int(e))
	}
	return b
}

// keyed is a batch with key 1 and one change for each of these keys.
func keyed(t *testing.T, keys ...int) *batch.Batch {
	t.Helper()
	var l ups
	for _, k := range keys {
		l = append(l, up(r(k, 10*k), 0, 0, 1))
	}
	return of(t, 1, l...)
}

// told is x as a text that is not too long to be read.
func told(x any) string {
	text := strings.ToValidUTF8(fmt.Sprintf("%+v", x), "?")
	if len(text) > 400 {
		text = text[:400] + " .."
	}
	return text
}

func sameUps(x, y ups) bool {
	return slices.EqualFunc(x, y, func(u, v api.Up) bool {
		return row.Same(u.Row, v.Row) && u.Time == v.Time && u.Diff == v.Diff
	})
}

// dice are numbers by a rule: the same ones at each run.
type dicer struct{ state uint64 }

func dice(seed uint64) *dicer { return &dicer{seed*2654435761 + 88172645463325252} }

// roll is a number from 0 up to below sides.
func (d *dicer) roll(sides int) int {
	d.state ^= d.state << 13
	d.state ^= d.state >> 7
	d.state ^= d.state << 17
	return int(d.state>>33) % sides
}

// firstPlace is the place that Find must tell, row by row.
func firstPlace(l rows, from int, r api.Row) int {
	from = min(max(from, 0), len(l))
	for from < len(l) && row.Order(l[from], r) < 0 {
		from++
	}
	return from
}

// allowed is how many rows may be held against r for a place at that distance.
func allowed(distance int) int {
	most := 2
	for many := 1; many <= distance; many *= 2 {
		most += 2
	}
	return most
}

// needed is how many must be held against r: the row there, and the one ahead of it, if they are in question.
func needed(l rows, from, at int) int {
	least := 0
	if at > from {
		least++
	}
	if at < len(l) {
		least++
	}
	return least
}

// holdFind asks for one place in rows that are in order.
func holdFind(t *testing.T, l rows, from int, r api.Row) {
	t.Helper()
	at, probes := seek.Find(l, from, r)
	want := firstPlace(l, from, r)
	if at != want {
		t.Fatalf("Find(%s, %d, %v) = %d, want %d", told(l), from, r, at, want)
	}
	start := min(max(from, 0), len(l))
	if least, most := needed(l, start, at), allowed(at-start); probes < least || probes > most {
		t.Fatalf("Find(%s, %d, %v) = %d with %d rows held against it, want %d to %d", told(l), from, r, at, probes, least, most)
	}
}

func TestAllowed(t *testing.T) { // the test's own bound, told by hand
	for distance, want := range map[int]int{0: 2, 1: 4, 2: 6, 3: 6, 4: 8, 7: 8, 8: 10, 1023: 22, 1024: 24} {
		if got := allowed(distance); got != want {
			t.Errorf("%d: %d, want %d", distance, got, want)
		}
	}
}

func TestFindThePagesExample(t *testing.T) { // P10.1
	if at, probes := seek.Find(rs(1, 3, 5, 7), 0, r(4)); at != 2 || probes < 2 || probes > 6 {
		t.Errorf("%d, %d", at, probes)
	}
}

func TestFindByHand(t *testing.T) { // P10.1
	l := rows{nil, r(1), r(1, "a"), r(1, "b"), r(2), r(2), r(2), r("")}
	for _, k := range []struct {
		from int
		r    api.Row
		at   int
	}{
		{0, nil, 0}, {1, nil, 1}, {0, r(0), 1}, {0, r(1), 1}, {0, r(1, 5), 2}, {0, r(1, "a"), 2}, {0, r(1, "a", 0), 3}, {0, r(1, "c"), 4},
		{0, r(2), 4}, {4, r(2), 4}, {5, r(2), 5}, {6, r(2), 6}, {7, r(2), 7}, {0, r(3), 7}, {0, r(""), 7}, {0, r("", 1), 8}, {0, r("a"), 8}, {8, nil, 8},
	} {
		if at, _ := seek.Find(l, k.from, k.r); at != k.at {
			t.Errorf("from %d, %v: %d, want %d", k.from, k.r, at, k.at)
		}
		holdFind(t, l, k.from, k.r)
	}
}

func TestFindInEachLength(t *testing.T) { // P10.1: at, between, ahead of and behind the rows, from every place on
	for length := range 70 {
		var l rows
		for i := range length {
			l = append(l, r(2*i+1))
		}
		for from := -1; from <= length+1; from++ {
			for x := -1; x <= 2*length+1; x++ {
				holdFind(t, l, from, r(x))
			}
		}
	}
}

func TestFindAmongAlikeRows(t *testing.T) { // P10.1: rows that stand there several times
	for _, often := range []int{1, 2, 3, 5, 8, 20} {
		var l rows
		for i := range 12 {
			for range (i*often)%7 + often/2 {
				l = append(l, r(i, "t"))
			}
		}
		for from := range len(l) + 1 {
			for x := -1; x <= 12; x++ {
				holdFind(t, l, from, r(x))
				holdFind(t, l, from, r(x, "t"))
				holdFind(t, l, from, r(x, "u"))
			}
		}
	}
	same := slices.Repeat(rs(5), 1000)
	for _, from := range []int{0, 1, 500, 998, 999, 1000} {
		for x := 4; x <= 6; x++ {
			holdFind(t, same, from, r(x))
		}
	}
}

func TestFindFarAway(t *testing.T) { // P10.1: the distance counts, not the length
	const length = 1 << 15
	l := make(rows, length)
	for i := range l {
		l[i] = r(3 * i)
	}
	for _, from := range []int{0, 1, 1000, length / 2, length - 2} {
		for step := 1; step <= 2*length; step *= 2 {
			for near := -2; near <= 2; near++ {
				for side := range 3 {
					holdFind(t, l, from, r(3*(from+step+near)+side))
				}
			}
		}
	}
	if at, probes := seek.Find(l, 0, r(-1)); at != 0 || probes < 1 || probes > 2 {
		t.Errorf("at the first one: %d, %d", at, probes)
	}
	if at, probes := seek.Find(l, length-1, r(high)); at != length || probes < 1 || probes > 4 {
		t.Errorf("behind the last one: %d, %d", at, probes)
	}
}

func TestFindAtTheEdges(t *testing.T) { // P10.1: no row; from below 0, at len(l), above it
	for _, l := range []rows{nil, {}} {
		for _, from := range []int{low, -1, 0, 1, high} {
			for _, x := range []api.Row{nil, r(1), r("a")} {
				if at, probes := seek.Find(l, from, x); at != 0 || probes != 0 {
					t.Errorf("no row, from %d: %d, %d", from, at, probes)
				}
			}
		}
	}
	l := rs(1, 3, 5)
	for _, from := range []int{low, low + 1, -3, -1} {
		for x := range 7 {
			holdFind(t, l, from, r(x))
		}
	}
	for _, from := range []int{3, 4, 99, high - 1, high} {
		for x := range 7 {
			if at, probes := seek.Find(l, from, r(x)); at != 3 || probes != 0 {
				t.Errorf("from %d: %d, %d", from, at, probes)
			}
		}
	}
}

func TestFindWithOddRows(t *testing.T) { // P10.1: the order of rows alone counts
	l := rows{
		{{Kind: low}}, {{Kind: -1, Int: 9}}, {{Kind: -1, Str: "x"}, n(1)}, r(low), r(low, low), r(-1), r(0, high), r(high),
		r(""), r("\x00"), r("a"), r("a\x00"), r("\xff"), {{Kind: 2}}, {{Kind: 2, Int: -5}, n(1)}, {{Kind: high}},
	}
	if !slices.IsSortedFunc(l, row.Order) {
		t.Fatal("the rows are not in order")
	}
	for from := range len(l) + 1 {
		for _, x := range l {
			holdFind(t, l, from, x)
			holdFind(t, l, from, laden(x, 3))
			holdFind(t, l, from, row.Join(x, r(low)))
			if len(x) > 0 {
				holdFind(t, l, from, x[:len(x)-1])
			}
		}
	}
}

func TestFindInDisorder(t *testing.T) { // P10.1: a place from from to len(l)
	d := dice(3)
	for range 5000 {
		var l rows
		for range d.roll(20) {
			l = append(l, r(d.roll(10)))
		}
		from := d.roll(len(l)+4) - 2
		at, probes := seek.Find(l, from, r(d.roll(12)-1))
		if start := min(max(from, 0), len(l)); at < start || at > len(l) || probes < 0 || probes > len(l)-start {
			t.Fatalf("%s from %d: %d, %d", told(l), from, at, probes)
		}
	}
}

func TestFindLeavesWhatIsHandedIn(t *testing.T) { // the rule of memory
	var l rows
	for i := range 9 {
		l = append(l, roomy(r(i, "a"), n(100+i)))
	}
	l = roomy(l, r("spare"))
	x := roomy(r(4, "a"), s("spare"))
	was := whole(l) + whole(rows{x})
	for from := -1; from <= 10; from++ {
		first, firstProbes := seek.Find(l, from, x)
		again, againProbes := seek.Find(l, from, x)
		if first != again || firstProbes != againProbes {
			t.Errorf("from %d: %d, %d, then %d, %d", from, first, firstProbes, again, againProbes)
		}
	}
	if is := whole(l) + whole(rows{x}); is != was {
		t.Errorf("%s has become %s", was, is)
	}
}

// model is a cursor that goes through a list of keys, as the chapter says it.
type model struct {
	keys rows
	ups  []ups
	at   int
}

// modelOf is made of all changes of all batches, key by key; the batches' own keys and runs play no part.
func modelOf(l batches) *model {
	m := new(model)
	for _, b := range l {
		for _, u := range b.Ups() {
			key := u.Row[:b.Key()]
			if !slices.ContainsFunc(m.keys, func(k api.Row) bool { return row.Same(k, key) }) {
				m.keys = append(m.keys, key)
			}
		}
	}
	slices.SortFunc(m.keys, row.Order)
	for _, k := range m.keys {
		var with ups
		for _, b := range l {
			for _, u := range b.Ups() {
				if row.Same(u.Row[:b.Key()], k) {
					with = append(with, u)
				}
			}
		}
		m.ups = append(m.ups, with)
	}
	return m
}

func (m *model) valid() bool { return m.at < len(m.keys) }

func (m *model) next() {
	if m.valid() {
		m.at++
	}
}

func (m *model) seek(key api.Row) { m.at = firstPlace(m.keys, m.at, key) }

func (m *model) rewind() { m.at = 0 }

// holdAt asks a cursor all that it may be asked, twice: to ask changes nothing.
func holdAt(t *testing.T, name string, c *seek.Cursor, m *model) {
	t.Helper()
	var key api.Row
	var with ups
	if m.valid() {
		key, with = m.keys[m.at], m.ups[m.at]
	}
	for range 2 {
		if got := c.Valid(); got != m.valid() {
			t.Fatalf("%s: Valid is %v at place %d of %s", name, got, m.at, told(m.keys))
		}
		if got := c.Key(); !row.Same(got, key) {
			t.Fatalf("%s: Key is %v, want %v", name, got, key)
		}
		if got := c.Ups(); !sameUps(got, with) {
			t.Fatalf("%s: Ups are %s, want %s", name, told(got), told(with))
		}
	}
	if !m.valid() && (c.Key() != nil || c.Ups() != nil) {
		t.Fatalf("%s: something stands behind the last key", name)
	}
}

// cursor is a new one that must be made, and its model, at the first key.
func cursor(t *testing.T, name string, l batches) (*seek.Cursor, *model) {
	t.Helper()
	c, e := seek.New(l)
	if e != api.OK || c == nil {
		t.Fatalf("%s: cursor %v, error %d", name, c != nil, int(e))
	}
	m := modelOf(l)
	holdAt(t, name+", new", c, m)
	return c, m
}

// walk goes from where both are to behind the last key, and some steps farther.
func walk(t *testing.T, name string, c *seek.Cursor, m *model) {
	t.Helper()
	for m.valid() {
		holdAt(t, name, c, m)
		c.Next()
		m.next()
	}
	for range 3 {
		holdAt(t, name+", behind the last key", c, m)
		c.Next()
	}
}

func TestThePagesBatches(t *testing.T) { // P10.2
	c, e := seek.New(batches{keyed(t, 1, 3), keyed(t, 2, 3)})
	if e != api.OK {
		t.Fatal(int(e))
	}
	for _, k := range []int{1, 2, 3} {
		if !c.Valid() || !row.Same(c.Key(), r(k)) {
			t.Fatalf("%v, want %d", c.Key(), k)
		}
		c.Next()
	}
	if c.Valid() {
		t.Errorf("%v behind the last key", c.Key())
	}
}

func TestSharedKeys(t *testing.T) { // P10.2: told by hand, one batch behind the other
	a := of(t, 1, up(r(1, "b"), 0, 0, 1), up(r(3, "a"), 2, 0, 2), up(r(3, "a"), 0, 1, 3), up(r(5), 0, 0, 4))
	b := of(t, 1, up(r(3, "A"), 0, 0, 5), up(r(2), 0, 0, 6), up(r(3), 9, 9, 7))
	d := of(t, 1, up(r(3, "a"), 0, 1, -3), up(r("x"), 0, 0, 8), up(r(1, "a"), 0, 0, 9))
	c, e := seek.New(batches{a, b, d})
	if e != api.OK {
		t.Fatal(int(e))
	}
	for _, k := range []struct {
		key api.Row
		ups ups
	}{
		{r(1), ups{up(r(1, "b"), 0, 0, 1), up(r(1, "a"), 0, 0, 9)}},
		{r(2), ups{up(r(2), 0, 0, 6)}},
		{r(3), ups{up(r(3, "a"), 0, 1, 3), up(r(3, "a"), 2, 0, 2), up(r(3), 9, 9, 7), up(r(3, "A"), 0, 0, 5), up(r(3, "a"), 0, 1, -3)}},
		{r(5), ups{up(r(5), 0, 0, 4)}},
		{r("x"), ups{up(r("x"), 0, 0, 8)}},
	} {
		if !c.Valid() || !row.Same(c.Key(), k.key) || !sameUps(c.Ups(), k.ups) {
			t.Fatalf("%v with %s, want %v with %s", c.Key(), told(c.Ups()), k.key, told(k.ups))
		}
		c.Next()
	}
	if c.Valid() || c.Key() != nil || c.Ups() != nil {
		t.Errorf("%v behind the last key", c.Key())
	}
}

func TestBatchesInEachOrder(t *testing.T) { // P10.2: the order of the list tells whose changes come first, not the keys'
	l := batches{keyed(t, 5, 7), keyed(t, 1, 5, 9), keyed(t, 5), keyed(t, 0, 9)}
	for i := range l {
		for k := range l {
			list := slices.Clone(l)
			list[i], list[k] = list[k], list[i]
			c, m := cursor(t, "turned round", list)
			walk(t, "turned round", c, m)
		}
	}
	c, m := cursor(t, "one batch twice", batches{l[1], l[0], l[1]})
	walk(t, "one batch twice", c, m)
}

func TestNoKey(t *testing.T) { // P10.2: no batch; nil batches alone; empty batches alone
	empty := of(t, 1)
	cancelled := of(t, 1, up(r(1), 0, 0, 1), up(r(1), 0, 0, -1))
	for _, k := range []struct {
		name string
		l    batches
	}{
		{"no batch, nil", nil},
		{"no batch", batches{}},
		{"a nil batch", batches{nil}},
		{"nil batches", batches{nil, nil, nil}},
		{"an empty batch", batches{empty}},
		{"empty and nil batches", batches{nil, empty, nil, cancelled, empty, nil}},
	} {
		c, m := cursor(t, k.name, k.l)
		c.Next()
		holdAt(t, k.name+", Next", c, m)
		c.Seek(r(1))
		holdAt(t, k.name+", Seek", c, m)
		c.Seek(nil)
		holdAt(t, k.name+", Seek to the empty row", c, m)
		c.Rewind()
		holdAt(t, k.name+", Rewind", c, m)
	}
}

func TestNilAndEmptyBatchesBetween(t *testing.T) { // P10.2: they are left out
	a, b, empty := keyed(t, 1, 3), keyed(t, 2, 3), of(t, 1)
	_, want := cursor(t, "without", batches{a, b})
	for _, l := range []batches{
		{nil, a, b}, {a, nil, b}, {a, b, nil}, {nil, nil, a, nil, nil, b, nil},
		{empty, a, b}, {a, empty, b}, {a, b, empty}, {nil, empty, a, empty, nil, b, empty, nil},
	} {
		c, e := seek.New(l)
		if e != api.OK {
			t.Fatalf("error %d", int(e))
		}
		want.rewind()
		walk(t, "with nil and empty ones", c, want)
	}
}

func TestTheEmptyKey(t *testing.T) { // P10.2: key 0 is one key, which is empty
	a := of(t, 0, up(r(2), 0, 0, 1), up(r(1), 0, 0, 2))
	b := of(t, 0, up(nil, 0, 0, 3), up(r(1), 0, 0, 4))
	c, m := cursor(t, "key 0", batches{a, nil, of(t, 0), b})
	if !c.Valid() || len(c.Key()) != 0 || !sameUps(c.Ups(), ups{up(r(1), 0, 0, 2), up(r(2), 0, 0, 1), up(nil, 0, 0, 3), up(r(1), 0, 0, 4)}) {
		t.Fatalf("%v with %s", c.Key(), told(c.Ups()))
	}
	c.Seek(nil)
	holdAt(t, "key 0, Seek to the empty row", c, m)
	c.Seek(api.Row{})
	holdAt(t, "key 0, Seek to the empty row", c, m)
	walk(t, "key 0", c, m)
	c.Rewind()
	m.rewind()
	holdAt(t, "key 0, Rewind", c, m)
	c.Seek(r(low))
	m.seek(r(low))
	holdAt(t, "key 0, Seek behind it", c, m)
	if c.Valid() {
		t.Error("the empty key is ahead of every other row")
	}
}

func TestSeek(t *testing.T) { // P10.2: told by hand
	c, e := seek.New(batches{keyed(t, 10, 30, 50), keyed(t, 20, 30, 60)})
	if e != api.OK {
		t.Fatal(int(e))
	}
	for _, k := range []struct {
		name string
		key  api.Row
		want int
	}{
		{"ahead of all", r(1), 10},
		{"the empty row", nil, 10},
		{"the key where it is", r(10), 10},
		{"a longer row than the key where it is", r(10, low), 20},
		{"one that is ahead: it stays", r(10), 20},
		{"between two keys", r(21), 30},
		{"a shorter row: it stays", nil, 30},
		{"far ahead: it stays", r(low), 30},
		{"the key where it is, in both", r(30), 30},
		{"over one key", r(51), 60},
		{"back: it stays", r(50), 60},
		{"the last key", r(60), 60},
	} {
		if c.Seek(k.key); !row.Same(c.Key(), r(k.want)) || !c.Valid() {
			t.Fatalf("%s: at %v, want %d", k.name, c.Key(), k.want)
		}
	}
	for _, key := range []api.Row{r(60, 0), r(0), nil, r(""), r(60)} {
		if c.Seek(key); c.Valid() || c.Key() != nil || c.Ups() != nil {
			t.Fatalf("Seek to %v behind the last key: at %v", key, c.Key())
		}
		if c.Next(); c.Valid() {
			t.Fatalf("Next behind the last key: at %v", c.Key())
		}
	}
	if c.Rewind(); !row.Same(c.Key(), r(10)) {
		t.Fatalf("Rewind from behind the last key: at %v", c.Key())
	}
	c.Seek(r(30))
	if !sameUps(c.Ups(), ups{up(r(30, 300), 0, 0, 1), up(r(30, 300), 0, 0, 1)}) {
		t.Fatalf("sought, and not stepped to: %s", told(c.Ups()))
	}
	if c.Rewind(); !row.Same(c.Key(), r(10)) {
		t.Fatalf("Rewind from a key on the way: at %v", c.Key())
	}
}

func TestSeekOfLongKeys(t *testing.T) { // P10.2: rows that are longer or shorter than a key
	l := ups{up(r(1, "a", 9), 0, 0, 1), up(r(1, "b"), 0, 0, 1), up(r(2, "a"), 0, 0, 1), up(r("", ""), 0, 0, 1), up(r("", "", ""), 0, 0, 1)}
	list := batches{of(t, 2, l...), of(t, 2, l[1], l[4]), of(t, 2)}
	all := rows{nil, r(0), r(1), r(1, 5), r(1, "a"), r(1, "a", 9), r(1, "a", low), r(1, "b"), r(1, "c"), r(2), r(2, "a"), r(2, "a", 0), r(3), r(""), r("", ""), r("", "", ""), r("a"), make(api.Row, 40)}
	for _, first := range all {
		for _, second := range all {
			c, m := cursor(t, "long keys", list)
			for _, x := range []api.Row{first, second} {
				c.Seek(x)
				m.seek(x)
				holdAt(t, "long keys, "+told(x), c, m)
			}
			walk(t, "long keys", c, m)
		}
	}
}

func TestSeekFromEveryKeyToEach(t *testing.T) { // P10.2
	list := batches{keyed(t, 1, 3, 5, 7, 9, 11), keyed(t, 3, 4, 5, 6), keyed(t, 2, 9, 12)}
	for from := range 12 {
		for to := -1; to <= 14; to++ {
			c, m := cursor(t, "each", list)
			for range from {
				c.Next()
				m.next()
			}
			c.Seek(r(to))
			m.seek(r(to))
			holdAt(t, fmt.Sprint("step ", from, ", then Seek to ", to), c, m)
			walk(t, "behind Seek", c, m)
			c.Rewind()
			m.rewind()
			walk(t, "behind Rewind", c, m)
		}
	}
}

func TestOtherKeyNumbers(t *testing.T) { // P10.2: ErrArg, and the cursor is nil
	zero, one, two, empty := of(t, 0, up(r(1, 2), 0, 0, 1)), keyed(t, 1), of(t, 2, up(r(1, 2), 0, 0, 1)), of(t, 3)
	full := of(t, api.MaxCols)
	for _, l := range []batches{
		{one, two}, {two, one}, {zero, one}, {one, zero}, {one, one, two}, {one, two, one}, {two, one, one}, {zero, full}, {full, zero},
		{nil, one, two}, {one, nil, two}, {one, two, nil}, {nil, nil, one, nil, one, nil, two, nil}, {nil, zero, nil, one}, {nil, one, nil, zero, nil},
		{one, empty}, {empty, one}, {empty, nil, two, nil}, {nil, empty, empty, zero},
	} {
		if c, e := seek.New(l); e != api.ErrArg || c != nil {
			t.Errorf("cursor %v, error %d", c != nil, int(e))
		}
	}
	// A nil batch has the Key 0, but it is left out.
	for _, l := range []batches{{nil, one}, {one, nil}, {nil, two, nil, two}, {nil, zero}, {empty, nil, empty}, {full, full}, {zero, zero}} {
		if c, e := seek.New(l); e != api.OK || c == nil {
			t.Errorf("cursor %v, error %d", c != nil, int(e))
		}
	}
}

func TestNilCursor(t *testing.T) { // P10.2: false, nothing
	var c *seek.Cursor
	c.Next()
	c.Seek(r(1))
	c.Seek(nil)
	c.Rewind()
	if c.Valid() || c.Key() != nil || c.Ups() != nil {
		t.Error("a nil cursor is at a key")
	}
}

func TestWhatNoCallMade(t *testing.T) { // the rule of ends: what it answers is open, but it answers
	made, e := seek.New(batches{new(batch.Batch), nil, new(batch.Batch)})
	if e != api.OK {
		t.Fatalf("error %d", int(e))
	}
	for _, c := range []*seek.Cursor{new(seek.Cursor), made} {
		c.Valid()
		c.Key()
		c.Ups()
		c.Next()
		c.Seek(r(1))
		c.Rewind()
	}
}

// laden is the row with the fields that play no part filled by some number.
func laden(r api.Row, by int) api.Row {
	r = slices.Clone(r)
	for i := range r {
		if r[i].Kind != api.KindInt {
			r[i].Int = by
		}
		if r[i].Kind != api.KindStr {
			r[i].Str = string(rune('a' + by&7))
		}
	}
	return r
}

func TestKeysThatDifferWhereItPlaysNoPart(t *testing.T) { // P10.2, the rule of rows: they are one key
	keys := rows{r(1, "a"), r(1, "b"), {n(2), {Kind: 7}}}
	var l batches
	for i := range 4 {
		var with ups
		for _, k := range keys {
			with = append(with, up(laden(row.Join(k, r(i)), i), 0, 0, 1+i))
		}
		l = append(l, of(t, 2, with...))
	}
	c, m := cursor(t, "laden", l)
	if len(m.keys) != len(keys) {
		t.Fatalf("%d keys", len(m.keys))
	}
	for i, k := range keys {
		c.Seek(laden(k, 5+i))
		if !row.Same(c.Key(), k) || len(c.Ups()) != len(l) {
			t.Fatalf("at %v with %s, want %v", c.Key(), told(c.Ups()), k)
		}
	}
	c.Rewind()
	walk(t, "laden", c, m)
}

// roomy is a list with spare room behind it, filled by what must stay there.
func roomy[T any, L ~[]T](l L, fill T) L {
	room := make(L, 0, len(l)+3)
	room = append(room, l...)
	spare := room[:cap(room)]
	for i := len(l); i < len(spare); i++ {
		spare[i] = fill
	}
	return room
}

// whole is each row with its spare room, as a text.
func whole(l rows) string {
	var text strings.Builder
	for _, r := range l[:cap(l)] {
		fmt.Fprint(&text, r[:cap(r)], len(r), ";")
	}
	return text.String()
}

// threeBatches share some keys.
func threeBatches(t *testing.T) batches {
	return batches{
		of(t, 1, up(r(1, "a"), 0, 0, 1), up(r(3, "a"), 0, 0, 1), up(r(3, "b"), 1, 0, 2), up(r(9), 0, 0, 1)),
		of(t, 1, up(r(3, "a"), 0, 0, 4), up(r(4), 0, 0, 1)),
		of(t, 1, up(r(1, "a"), 0, 2, 1), up(r(3, "c"), 0, 0, 1), up(r(7, "x"), 0, 0, 1), up(r(9, "y"), 0, 0, 1)),
	}
}

func TestTheListIsNotKept(t *testing.T) { // the rule of memory: neither changed nor kept
	three := threeBatches(t)
	spare := keyed(t, 2, 3, 8)
	for steps := range 7 {
		l := roomy(batches{three[0], nil, three[1], three[2]}, spare)
		was := slices.Clone(l[:cap(l)])
		c, m := cursor(t, "the list", l)
		for range steps {
			c.Next()
			m.next()
		}
		if !slices.Equal(l[:cap(l)], was) {
			t.Fatal("the list has changed")
		}
		for i := range l[:cap(l)] {
			l[:cap(l)][i] = spare
		}
		walk(t, "written over", c, m)
		c.Rewind()
		m.rewind()
		c.Seek(r(2))
		m.seek(r(2))
		walk(t, "written over, rewound", c, m)
		for _, b := range l[:cap(l)] {
			if b != spare {
				t.Fatal("the list has been written to")
			}
		}
	}
}

func TestBatchesWrittenOver(t *testing.T) { // the rule of memory: also a batch itself is not kept
	l := threeBatches(t)
	c, m := cursor(t, "the batches", l)
	c.Next()
	m.next()
	other := keyed(t, 2, 3, 8)
	*l[0], *l[1], *l[2] = *other, *other, batch.Batch{}
	walk(t, "written over", c, m)
	c.Rewind()
	m.rewind()
	walk(t, "written over, rewound", c, m)
}

func TestBatchesAreNotChanged(t *testing.T) { // the rule of memory
	l := threeBatches(t)
	asked := func() string {
		var text strings.Builder
		for _, b := range l {
			fmt.Fprintln(&text, b.Key(), b.Len(), b.Weight(), b.Keys(), b.Ups(), b.Lower(), b.Upper(), b.Since())
			for i := range b.Keys() {
				fmt.Fprintln(&text, b.Rests(i), b.Run(i))
			}
		}
		return text.String()
	}
	was := asked()
	c, m := cursor(t, "the batches", l)
	walk(t, "the batches", c, m)
	c.Rewind()
	c.Seek(r(5))
	spoilRow(c.Key())
	spoilUps(c.Ups())
	if is := asked(); is != was {
		t.Errorf("%s has become %s", was, is)
	}
}

func TestSeekLeavesItsKey(t *testing.T) { // the rule of memory: neither changed nor kept
	c, m := cursor(t, "Seek", threeBatches(t))
	key := roomy(r(3), s("spare"))
	was := whole(rows{key})
	c.Seek(key)
	m.seek(r(3))
	if is := whole(rows{key}); is != was {
		t.Fatalf("%s has become %s", was, is)
	}
	spoilRow(key)
	now := whole(rows{key})
	walk(t, "Seek, its key written over", c, m)
	c.Rewind()
	if is := whole(rows{key}); is != now {
		t.Fatalf("%s has become %s", now, is)
	}
}

func spoilRow(l api.Row) {
	_ = append(l, s("spoilt"), s("spoilt"))
	for i := range l[:cap(l)] {
		l[:cap(l)][i] = s("spoilt")
	}
}

func spoilUps(l ups) {
	for _, u := range l {
		spoilRow(u.Row)
	}
	_ = append(l, up(r("spoilt"), -1, -1, -1))
	for i := range l[:cap(l)] {
		l[:cap(l)][i] = up(r("spoilt"), -1, -1, -1)
	}
}

// places are where the values of answers lie, each of which may be told but once.
type places map[unsafe.Pointer]string

func takeAll[T any](t *testing.T, p places, name string, l []T) {
	t.Helper()
	for i := range l[:cap(l)] {
		place := unsafe.Pointer(&l[:cap(l)][i])
		if other, there := p[place]; there {
			t.Fatalf("%s lies where %s does", name, other)
		}
		p[place] = name
	}
}

func (p places) takeUps(t *testing.T, name string, l ups) {
	t.Helper()
	takeAll(t, p, name, l)
	for _, u := range l {
		takeAll(t, p, name+"'s row", u.Row)
	}
}

func TestAnswersAreTheirOwn(t *testing.T) { // the rule of memory: no list, row or spare room is shared
	l := threeBatches(t)
	p := places{}
	for _, b := range l {
		for i, k := range b.Keys() {
			takeAll(t, p, "a batch's key", k)
			p.takeUps(t, "a batch's run", b.Run(i))
		}
	}
	c, m := cursor(t, "their own", l)
	for range 2 {
		for m.valid() {
			for range 3 {
				key, with := c.Key(), c.Ups()
				takeAll(t, p, "Key", key)
				p.takeUps(t, "Ups", with)
				spoilRow(key)
				spoilUps(with)
				holdAt(t, "spoilt", c, m)
			}
			c.Next()
			m.next()
		}
		c.Rewind()
		m.rewind()
	}
	other, fresh := cursor(t, "another cursor", l)
	walk(t, "another cursor", other, fresh)
}

func TestAppendedRowsStayApart(t *testing.T) { // the rule of memory: spare room, too
	c, m := cursor(t, "appended to", threeBatches(t))
	for m.valid() {
		with, key := c.Ups(), c.Key()
		_ = append(key, s("more"), s("more"))
		for _, u := range with {
			_ = append(u.Row, s("more"), s("more"))
		}
		if !sameUps(with, m.ups[m.at]) {
			t.Fatalf("what is appended to a row shows in %s", told(with))
		}
		_ = append(with, up(r("more"), 0, 0, 1))
		holdAt(t, "appended to", c, m)
		c.Next()
		m.next()
	}
}

func TestCursorsOfTheSameBatches(t *testing.T) { // the rule of arguments: each is where its own calls have brought it
	l := threeBatches(t)
	a, am := cursor(t, "the first one", l)
	b, bm := cursor(t, "the second one", l)
	a.Seek(r(4))
	am.seek(r(4))
	holdAt(t, "the second one", b, bm)
	b.Next()
	bm.next()
	holdAt(t, "the first one", a, am)
	a.Rewind()
	am.rewind()
	holdAt(t, "the second one", b, bm)
	walk(t, "the first one", a, am)
	walk(t, "the second one", b, bm)
}

// someBatches are some, with keys from a small range so that they share them.
func (d *dicer) someBatches(t *testing.T, key int) batches {
	t.Helper()
	var l batches
	for range d.roll(6) {
		if d.roll(6) == 0 {
			l = append(l, nil)
			continue
		}
		var with ups
		for range d.roll(12) {
			with = append(with, up(d.someRow(key+d.roll(3)), d.roll(3), d.roll(3), d.roll(5)-2))
		}
		l = append(l, of(t, key, with...))
	}
	return l
}

func (d *dicer) someRow(length int) api.Row {
	var told api.Row
	for range length {
		told = append(told, []api.Val{n(d.roll(6) - 1), s(string(rune('a' + d.roll(2))))}[d.roll(5)/4])
	}
	return told
}

// roam makes some steps, each asked for behind it.
func (d *dicer) roam(t *testing.T, steps, key int, c *seek.Cursor, m *model) {
	t.Helper()
	for range steps {
		name := "Next"
		switch d.roll(8) {
		default:
			c.Next()
			m.next()
		case 0:
			name = "Rewind"
			c.Rewind()
			m.rewind()
		case 1, 2, 3:
			to := d.someRow(max(0, key+d.roll(3)-1))
			name = "Seek to " + told(to)
			c.Seek(to)
			m.seek(to)
		}
		holdAt(t, name, c, m)
	}
}

func TestGenerated(t *testing.T) { // P10.2, P10.3: Next, Seek and Rewind in any order
	d := dice(10)
	keys, shared, empty := 0, 0, 0
	for range 3000 {
		key := d.roll(4)
		l := d.someBatches(t, key)
		c, m := cursor(t, "generated", l)
		if len(m.keys) == 0 {
			empty++
		}
		for i := range m.keys {
			keys++
			shared += min(1, len(m.ups[i])-1)
		}
		d.roam(t, 12, key, c, m)
		c.Rewind()
		m.rewind()
		holdFollows(t, c, l)
	}
	if empty == 0 || shared == 0 || shared == keys {
		t.Errorf("%d cursors have no key, %d of %d keys have several changes", empty, shared, keys)
	}
}

// holdFollows asks what follows, P10.3, of a cursor at its first key.
func holdFollows(t *testing.T, c *seek.Cursor, l batches) {
	t.Helper()
	var all, want ups
	var keys rows
	for ; c.Valid(); c.Next() {
		key, with := c.Key(), c.Ups()
		if len(with) == 0 {
			t.Fatalf("no change with %v", key)
		}
		if len(keys) > 0 && row.Order(keys[len(keys)-1], key) >= 0 {
			t.Fatalf("%v comes behind %v", key, keys[len(keys)-1])
		}
		for _, u := range with {
			if !row.Same(u.Row[:len(key)], key) {
				t.Fatalf("%v comes with %v", u, key)
			}
		}
		keys, all = append(keys, key), append(all, with...)
	}
	for _, b := range l {
		want = append(want, b.Ups()...)
		for _, k := range b.Keys() {
			if _, there := slices.BinarySearchFunc(keys, k, row.Order); !there {
				t.Fatalf("%v does not come", k)
			}
		}
	}
	// Within one row and time the Diffs are sorted too, so that each change is told once.
	order := func(u, v api.Up) int {
		if o := zset.Order(u, v); o != 0 {
			return o
		}
		return u.Diff - v.Diff
	}
	slices.SortFunc(all, order)
	slices.SortFunc(want, order)
	if !sameUps(all, want) {
		t.Fatalf("step by step %s came, of %s", told(all), told(want))
	}
}

func TestStepByStep(t *testing.T) { // P10.3: each key once, in order, and each change just once
	three := threeBatches(t)
	for _, l := range []batches{nil, three, three[1:], {three[0], three[0]}, {nil, three[2], nil, three[0]}} {
		c, e := seek.New(l)
		if e != api.OK {
			t.Fatal(int(e))
		}
		holdFollows(t, c, l)
	}
}

func TestMany(t *testing.T) { // P10.2, P10.3: long batches, told by a rule
	const length, rule = 3000, 5
	var l batches
	for i := range rule {
		var with ups
		for k := range length {
			if k%(i+1) == 0 {
				with = append(with, up(r(k, i), 0, k, i+1))
			}
		}
		l = append(l, of(t, 1, with...))
	}
	c, e := seek.New(l)
	if e != api.OK {
		t.Fatal(int(e))
	}
	hold := func(k int) {
		var want ups
		for i := range rule {
			if k%(i+1) == 0 {
				want = append(want, up(r(k, i), 0, k, i+1))
			}
		}
		if !c.Valid() || !row.Same(c.Key(), r(k)) || !sameUps(c.Ups(), want) {
			t.Fatalf("at %v with %s, want %d with %s", c.Key(), told(c.Ups()), k, told(want))
		}
	}
	for k := range length {
		hold(k)
		c.Next()
	}
	if c.Valid() {
		t.Fatalf("%v behind the last key", c.Key())
	}
	for step := 1; step < length; step *= 2 {
		c.Rewind()
		for k := 0; k < length; k += step {
			c.Seek(r(k))
			hold(k)
		}
	}
}

func FuzzCursors(f *testing.F) {
	f.Add(uint64(1), 0, 10)
	f.Add(uint64(2), 1, 30)
	f.Add(uint64(3), 3, 60)
	f.Fuzz(func(t *testing.T, seed uint64, key, steps int) {
		d := dice(seed)
		key &= 3
		l := d.someBatches(t, key)
		c, m := cursor(t, "fuzzed", l)
		d.roam(t, steps&63, key, c, m)
		for range steps & 63 {
			holdFind(t, m.keys, d.roll(len(m.keys)+3)-1, d.someRow(d.roll(key+2)))
		}
		c.Rewind()
		holdFollows(t, c, l)
	})
}

package batch_test

import (
	"cmp"
	"fmt"
	"math"
	"math/big"
	"slices"
	"strings"
	"testing"
	"unsafe"

	"runnel/api"
	"runnel/batch"
	"runnel/front"
	"runnel/row"
	"runnel/zset"
)

const (
	low  = math.MinInt
	high = math.MaxInt
)

type ups = []api.Up
type times = []api.Time
type rows = []api.Row

func n(x int) api.Val    { return api.Val{Kind: api.KindInt, Int: x} }
func s(x string) api.Val { return api.Val{Kind: api.KindStr, Str: x} }

func at(epoch, round int) api.Time { return api.Time{Epoch: epoch, Round: round} }

// r is a row of numbers and texts.
func r(values ...any) api.Row {
	var told api.Row
	for _, v := range values {
		switch x := v.(type) {
		case int:
			told = append(told, n(x))
		case string:
			told = append(told, s(x))
		}
	}
	return told
}

func up(r api.Row, epoch, round, diff int) api.Up {
	return api.Up{Row: r, Time: at(epoch, round), Diff: diff}
}

// told is x as a text that is not too long to be read.
func told(x any) string {
	text := strings.ToValidUTF8(fmt.Sprintf("%+v", x), "?")
	if len(text) > 400 {
		text = text[:400] + " .."
	}
	return text
}

// answers are all that a batch may be asked.
type answers struct {
	key, length, weight int
	keys                rows
	rests               []rows
	runs                []ups
	ups                 ups
	lower, upper, since times
}

// asked is what the batch answers, and nothing is taken from one answer for another one.
func asked(b *batch.Batch) answers {
	a := answers{key: b.Key(), length: b.Len(), weight: b.Weight(), keys: b.Keys(), ups: b.Ups(), lower: b.Lower(), upper: b.Upper(), since: b.Since()}
	for i := range b.Keys() {
		a.rests = append(a.rests, b.Rests(i))
		a.runs = append(a.runs, b.Run(i))
	}
	return a
}

func sameRows(x, y rows) bool { return slices.EqualFunc(x, y, row.Same) }

func sameUps(x, y ups) bool {
	return slices.EqualFunc(x, y, func(u, v api.Up) bool {
		return row.Same(u.Row, v.Row) && u.Time == v.Time && u.Diff == v.Diff
	})
}

// differ names what two answer otherwise; "", if nothing.
func differ(x, y answers) string {
	for _, k := range []struct {
		name string
		same bool
	}{
		{"Key", x.key == y.key},
		{"Len", x.length == y.length},
		{"Weight", x.weight == y.weight},
		{"Keys", sameRows(x.keys, y.keys)},
		{"Rests", slices.EqualFunc(x.rests, y.rests, sameRows)},
		{"Run", slices.EqualFunc(x.runs, y.runs, sameUps)},
		{"Ups", sameUps(x.ups, y.ups)},
		{"Lower", slices.Equal(x.lower, y.lower)},
		{"Upper", slices.Equal(x.upper, y.upper)},
		{"Since", slices.Equal(x.since, y.since)},
	} {
		if !k.same {
			return k.name
		}
	}
	return ""
}

// hold asks a batch all that it may be asked, and the chapter's "nothing, if there is no such key" too.
func hold(t *testing.T, name string, b *batch.Batch, e api.Errno, want answers, wantErr api.Errno) {
	t.Helper()
	if e != wantErr || (b == nil) != (wantErr != api.OK) {
		t.Fatalf("%s: batch %v, error %d, want %d", name, b != nil, int(e), int(wantErr))
	}
	got := asked(b)
	if d := differ(got, want); d != "" {
		t.Fatalf("%s: %s is not as it must be: %s, want %s", name, d, told(got), told(want))
	}
	for _, i := range []int{low, -2, -1, len(want.keys), len(want.keys) + 1, high} {
		if rests, run := b.Rests(i), b.Run(i); rests != nil || run != nil {
			t.Fatalf("%s: there is no key %d, but %s and %s behind it", name, i, told(rests), told(run))
		}
	}
}

// rep is what stands for a time, as chapter 5 says it.
func rep(f times, t api.Time) api.Time {
	told := at(high, high)
	for _, u := range f {
		told.Epoch = min(told.Epoch, max(t.Epoch, u.Epoch))
		told.Round = min(told.Round, max(t.Round, u.Round))
	}
	return told
}

// sum is what is known of a row and a time on the way through a list.
type sum struct {
	up   api.Up
	all  *big.Int
	over bool
}

// consolidated is zset.Consolidate as chapter 7 says it, with no sort of changes.
func consolidated(l ups) (ups, api.Errno) {
	var sums []*sum
	for _, u := range l {
		i := slices.IndexFunc(sums, func(x *sum) bool { return row.Same(x.up.Row, u.Row) && x.up.Time == u.Time })
		if i < 0 {
			i = len(sums)
			sums = append(sums, &sum{up: u, all: new(big.Int)})
		}
		x := sums[i]
		x.all.Add(x.all, big.NewInt(int64(u.Diff)))
		x.over = x.over || !x.all.IsInt64()
	}
	var out ups
	for _, x := range sums {
		if x.over {
			return nil, api.ErrOver
		}
		if x.all.Sign() == 0 {
			continue
		}
		x.up.Diff = int(x.all.Int64())
		place := 0
		for place < len(out) && before(out[place], x.up) {
			place++
		}
		out = slices.Insert(out, place, x.up)
	}
	return out, api.OK
}

func before(u, v api.Up) bool {
	return cmp.Or(row.Order(u.Row, v.Row), cmp.Compare(u.Time.Epoch, v.Time.Epoch), cmp.Compare(u.Time.Round, v.Time.Round)) < 0
}

// least is the times to which no other one is less or equal, in order.
func least(l times) times {
	var out times
	for _, t := range l {
		under := func(u api.Time) bool { return u != t && u.Epoch <= t.Epoch && u.Round <= t.Round }
		if !slices.ContainsFunc(l, under) && !slices.Contains(out, t) {
			out = append(out, t)
		}
	}
	slices.SortFunc(out, func(a, b api.Time) int { return cmp.Or(cmp.Compare(a.Epoch, b.Epoch), cmp.Compare(a.Round, b.Round)) })
	return out
}

// fault is that of since, as chapter 5 says it.
func fault(since times) api.Errno {
	may := func(x int) bool { return x >= 0 && x <= api.MaxTime }
	if len(since) > api.MaxFront {
		return api.ErrMany
	}
	for _, t := range since {
		if !may(t.Epoch) || !may(t.Round) {
			return api.ErrTime
		}
	}
	for i := 1; i < len(since); i++ {
		if since[i-1].Epoch >= since[i].Epoch || since[i-1].Round <= since[i].Round {
			return api.ErrForm
		}
	}
	return api.OK
}

// asTold is what must be answered of a batch, as the chapter says it.
func asTold(key int, l ups, since times, weight int) (answers, api.Errno) {
	if weight < 0 || key < 0 || key > api.MaxCols {
		return answers{}, api.ErrArg
	}
	for _, u := range l {
		if len(u.Row) < key {
			return answers{}, api.ErrRange
		}
	}
	if e := fault(since); e != api.OK {
		return answers{}, e
	}
	l = slices.Clone(l)
	if len(since) > 0 {
		for i := range l {
			l[i].Time = rep(since, l[i].Time)
		}
	}
	sorted, e := consolidated(l)
	if e != api.OK {
		return answers{}, e
	}
	a := answers{key: key, length: len(sorted), weight: weight, ups: sorted, since: since}
	a.groups()
	a.bounds()
	return a, api.OK
}

// groups are the keys, and what stands behind each.
func (a *answers) groups() {
	for _, u := range a.ups {
		if !slices.ContainsFunc(a.keys, func(k api.Row) bool { return row.Same(k, u.Row[:a.key]) }) {
			a.keys = append(a.keys, u.Row[:a.key])
		}
	}
	for _, k := range a.keys {
		var rests rows
		var run ups
		for _, u := range a.ups {
			if !row.Same(u.Row[:a.key], k) {
				continue
			}
			run = append(run, u)
			rest := u.Row[a.key:]
			if !slices.ContainsFunc(rests, func(r api.Row) bool { return row.Same(r, rest) }) {
				rests = append(rests, rest)
			}
		}
		a.rests, a.runs = append(a.rests, rests), append(a.runs, run)
	}
}

// bounds are Lower and Upper.
func (a *answers) bounds() {
	if len(a.ups) == 0 {
		a.upper = times{at(0, 0)}
		return
	}
	var all times
	epoch, round := low, low
	for _, u := range a.ups {
		all = append(all, u.Time)
		epoch, round = max(epoch, u.Time.Epoch), max(round, u.Time.Round)
	}
	a.lower = least(all)
	if round != high {
		a.upper = append(a.upper, at(0, round+1))
	}
	if epoch != high {
		a.upper = append(a.upper, at(epoch+1, 0))
	}
}

func TestThePagesExample(t *testing.T) { // P9.1 to P9.3
	l := ups{up(r(1, "a"), 0, 0, 1), up(r(1, "b"), 0, 1, 2), up(r(1, "a"), 0, 0, 1)}
	b, e := batch.New(1, l, nil)
	all := ups{up(r(1, "a"), 0, 0, 2), up(r(1, "b"), 0, 1, 2)}
	hold(t, "the page's", b, e, answers{
		key: 1, length: 2, weight: 3, keys: rows{r(1)}, rests: []rows{{r("a"), r("b")}}, runs: []ups{all}, ups: all,
		lower: times{at(0, 0)}, upper: times{at(0, 2), at(1, 0)},
	}, api.OK)
}

func TestSeveralKeys(t *testing.T) { // P9.1 to P9.3: told by hand
	l := ups{
		up(r(2, "b"), 1, 0, 5), up(r(1, "b"), 0, 3, 1), up(r(2, "a"), 2, 1, 1), up(r("x", "a"), 0, 0, 7), up(r(1, "a"), 1, 1, 1),
		up(r(1, "b"), 0, 3, 1), up(r(2, "b"), 1, 0, -5), up(r(1, "a"), 0, 1, -2), up(r(2, "a"), 0, 0, 3), up(r(1, "b"), 0, 3, 1),
	}
	one := ups{up(r(1, "a"), 0, 1, -2), up(r(1, "a"), 1, 1, 1), up(r(1, "b"), 0, 3, 3)}
	two := ups{up(r(2, "a"), 0, 0, 3), up(r(2, "a"), 2, 1, 1)}
	x := ups{up(r("x", "a"), 0, 0, 7)}
	b, e := batch.New(1, l, nil)
	hold(t, "as they are", b, e, answers{
		key: 1, length: 6, weight: 10, keys: rows{r(1), r(2), r("x")}, rests: []rows{{r("a"), r("b")}, {r("a")}, {r("a")}},
		runs: []ups{one, two, x}, ups: slices.Concat(one, two, x), lower: times{at(0, 0)}, upper: times{at(0, 4), at(3, 0)},
	}, api.OK)

	one = ups{up(r(1, "a"), 1, 1, -1), up(r(1, "b"), 1, 3, 3)}
	two = ups{up(r(2, "a"), 1, 1, 3), up(r(2, "a"), 2, 1, 1)}
	x = ups{up(r("x", "a"), 1, 1, 7)}
	b, e = batch.New(1, l, times{at(1, 1)})
	hold(t, "since one time", b, e, answers{
		key: 1, length: 5, weight: 10, keys: rows{r(1), r(2), r("x")}, rests: []rows{{r("a"), r("b")}, {r("a")}, {r("a")}},
		runs: []ups{one, two, x}, ups: slices.Concat(one, two, x), lower: times{at(1, 1)}, upper: times{at(0, 4), at(3, 0)}, since: times{at(1, 1)},
	}, api.OK)

	one = ups{up(r(1, "a"), 0, 1, -2), up(r(1, "a"), 1, 1, 1), up(r(1, "b"), 0, 3, 3)}
	two = ups{up(r(2, "a"), 0, 1, 3), up(r(2, "a"), 2, 1, 1)}
	x = ups{up(r("x", "a"), 0, 1, 7)}
	b, e = batch.New(1, l, times{at(0, 2), at(1, 1)})
	hold(t, "since two times", b, e, answers{
		key: 1, length: 6, weight: 10, keys: rows{r(1), r(2), r("x")}, rests: []rows{{r("a"), r("b")}, {r("a")}, {r("a")}},
		runs: []ups{one, two, x}, ups: slices.Concat(one, two, x), lower: times{at(0, 1)}, upper: times{at(0, 4), at(3, 0)}, since: times{at(0, 2), at(1, 1)},
	}, api.OK)
}

func TestSinceBringsTimesTogether(t *testing.T) { // P9.1: also to nothing
	l := ups{up(r(1), 0, 0, 1), up(r(1), 1, 0, -1), up(r(2), 0, 5, 1), up(r(2), 0, 7, 1), up(r(3), 0, 0, 2), up(r(3), 4, 0, -2)}
	b, e := batch.New(1, l, times{at(1, 0)})
	left := ups{up(r(2), 1, 5, 1), up(r(2), 1, 7, 1), up(r(3), 1, 0, 2), up(r(3), 4, 0, -2)}
	hold(t, "one time", b, e, answers{
		key: 1, length: 4, weight: 6, keys: rows{r(2), r(3)}, rests: []rows{{nil}, {nil}}, runs: []ups{left[:2], left[2:]}, ups: left,
		lower: times{at(1, 0)}, upper: times{at(0, 8), at(5, 0)}, since: times{at(1, 0)},
	}, api.OK)
	b, e = batch.New(1, l, times{at(4, 7)})
	left = ups{up(r(2), 4, 7, 2)}
	hold(t, "a time behind all", b, e, answers{
		key: 1, length: 1, weight: 6, keys: rows{r(2)}, rests: []rows{{nil}}, runs: []ups{left}, ups: left,
		lower: times{at(4, 7)}, upper: times{at(0, 8), at(5, 0)}, since: times{at(4, 7)},
	}, api.OK)
	b, e = batch.New(1, l, times{at(2, 9), at(3, 7)})
	left = ups{up(r(2), 2, 7, 2), up(r(3), 2, 7, 2), up(r(3), 4, 7, -2)}
	hold(t, "two times", b, e, answers{
		key: 1, length: 3, weight: 6, keys: rows{r(2), r(3)}, rests: []rows{{nil}, {nil}}, runs: []ups{left[:1], left[1:]}, ups: left,
		lower: times{at(2, 7)}, upper: times{at(0, 8), at(5, 0)}, since: times{at(2, 9), at(3, 7)},
	}, api.OK)
}

func TestNothingThere(t *testing.T) { // P9.2, P9.3
	cancelling := ups{up(r(1), 3, 4, 1), up(r(2), 5, 0, high), up(r(1), 3, 4, -1), up(r(2), 5, 0, -high), up(r(1), 0, 0, 0)}
	for _, k := range []struct {
		name   string
		l      ups
		since  times
		weight int
	}{
		{"no change", nil, nil, 0},
		{"no change, empty", ups{}, times{}, 0},
		{"no change, since", nil, times{at(0, 9), at(3, 3)}, 0},
		{"all cancel out", cancelling, nil, 5},
		{"all cancel out, since", cancelling, times{at(9, 9)}, 5},
		{"all cancel out by since alone", ups{up(r(1), 0, 0, 1), up(r(1), 1, 0, -1)}, times{at(1, 0)}, 2},
	} {
		for _, key := range []int{0, 1} {
			b, e := batch.New(key, k.l, k.since)
			hold(t, k.name, b, e, answers{key: key, weight: k.weight, upper: times{at(0, 0)}, since: k.since}, api.OK)
		}
	}
	b, e := batch.New(api.MaxCols, nil, nil)
	hold(t, "no change, the longest key", b, e, answers{key: api.MaxCols, upper: times{at(0, 0)}}, api.OK)
}

func TestKeysOfEachLength(t *testing.T) { // P9.2
	long := make(api.Row, api.MaxCols)
	for i := range long {
		long[i] = n(i)
	}
	other := slices.Clone(long)
	other[api.MaxCols-1] = s("")
	l := ups{up(other, 0, 0, 1), up(long, 2, 0, 1), up(long, 1, 0, 1)}
	all := ups{l[2], l[1], l[0]}
	for key := range api.MaxCols + 1 {
		want := answers{key: key, length: 3, weight: 3, keys: rows{long[:key]}, rests: []rows{{long[key:], other[min(key, api.MaxCols):]}}, runs: []ups{all}, ups: all, lower: times{at(0, 0)}, upper: times{at(0, 1), at(3, 0)}}
		if key == api.MaxCols {
			want.keys, want.rests, want.runs = rows{long, other}, []rows{{nil}, {nil}}, []ups{all[:2], all[2:]}
		}
		b, e := batch.New(key, l, nil)
		hold(t, "key "+told(key), b, e, want, api.OK)
	}
}

func TestRowsOfOtherLengths(t *testing.T) { // P9.2: a rest may be empty, and keys may be followed by rests of any length
	l := ups{
		up(r(1, 1, 1), 0, 0, 1), up(r(1), 0, 0, 2), up(r(2), 0, 0, 3), up(r(1, 1), 0, 0, 4), up(r("", ""), 0, 0, 5),
		up(r(""), 0, 0, 6), up(r(1), 0, 1, 7),
	}
	all := ups{l[1], l[6], l[3], l[0], l[2], l[5], l[4]}
	b, e := batch.New(1, l, nil)
	hold(t, "key 1", b, e, answers{
		key: 1, length: 7, weight: 7, keys: rows{r(1), r(2), r("")}, rests: []rows{{nil, r(1), r(1, 1)}, {nil}, {nil, r("")}},
		runs: []ups{all[:4], all[4:5], all[5:]}, ups: all, lower: times{at(0, 0)}, upper: times{at(0, 2), at(1, 0)},
	}, api.OK)
	l = append(l, up(nil, 9, 0, 8), up(api.Row{}, 9, 0, 1))
	all = append(ups{up(nil, 9, 0, 9)}, all...)
	b, e = batch.New(0, l, nil)
	hold(t, "key 0", b, e, answers{
		key: 0, length: 8, weight: 9, keys: rows{nil}, rests: []rows{{nil, r(1), r(1, 1), r(1, 1, 1), r(2), r(""), r("", "")}},
		runs: []ups{all}, ups: all, lower: times{at(0, 0)}, upper: times{at(0, 2), at(10, 0)},
	}, api.OK)
}

func TestRestsThatAreAlike(t *testing.T) { // P9.2: behind two keys that stand side by side
	l := ups{up(r(1, 5), 0, 0, 1), up(r(2, 5), 0, 0, 1), up(r(3, 5), 0, 0, 1), up(r(3, 5), 0, 1, 1)}
	b, e := batch.New(1, l, nil)
	hold(t, "alike", b, e, answers{
		key: 1, length: 4, weight: 4, keys: rows{r(1), r(2), r(3)}, rests: []rows{{r(5)}, {r(5)}, {r(5)}}, runs: []ups{l[:1], l[1:2], l[2:]}, ups: l,
		lower: times{at(0, 0)}, upper: times{at(0, 2), at(1, 0)},
	}, api.OK)
}

func TestLongRowsAreTaken(t *testing.T) { // P9.1 names no other fault of a row: longer than MaxCols, kinds and texts that row.Check does not take
	long := append(make(api.Row, api.MaxCols+4), s(strings.Repeat("x", api.MaxText+1)), api.Val{Kind: 9}, api.Val{Kind: -1})
	l := ups{up(long, -1, -7, 1), up(long[:api.MaxCols], -3, api.MaxTime+1, 2)}
	for key := range api.MaxCols + 1 {
		b, e := batch.New(key, l, nil)
		want, wantErr := asTold(key, l, nil, 2)
		hold(t, "long", b, e, want, wantErr)
		if wantErr != api.OK || b.Len() != 2 {
			t.Fatal("both must be there")
		}
	}
}

func TestWeighed(t *testing.T) { // P9.1, P9.2
	l := ups{up(r(1), 0, 0, 1), up(r(1), 0, 0, 1), up(r(2), 1, 0, -1)}
	for _, weight := range []int{0, 1, 2, 3, 4, 1 << 40, high} {
		b, e := batch.Weighed(1, l, times{at(0, 1)}, weight)
		all := ups{up(r(1), 0, 1, 2), up(r(2), 1, 1, -1)}
		hold(t, "weight "+told(weight), b, e, answers{
			key: 1, length: 2, weight: weight, keys: rows{r(1), r(2)}, rests: []rows{{nil}, {nil}}, runs: []ups{all[:1], all[1:]}, ups: all,
			lower: times{at(0, 1)}, upper: times{at(0, 2), at(2, 0)}, since: times{at(0, 1)},
		}, api.OK)
		b, e = batch.Weighed(0, nil, nil, weight)
		hold(t, "of nothing", b, e, answers{weight: weight, upper: times{at(0, 0)}}, api.OK)
	}
	for _, weight := range []int{-1, -2, low} {
		b, e := batch.Weighed(1, l, nil, weight)
		hold(t, "weight "+told(weight), b, e, answers{}, api.ErrArg)
	}
}

func TestUpper(t *testing.T) { // P9.3: which part of it is left out
	for _, k := range []struct {
		name         string
		l            times
		lower, upper times
	}{
		{"one time", times{at(3, 4)}, times{at(3, 4)}, times{at(0, 5), at(4, 0)}},
		{"the greatest of each", times{at(3, 1), at(1, 3), at(2, 2)}, times{at(1, 3), at(2, 2), at(3, 1)}, times{at(0, 4), at(4, 0)}},
		{"the first time", times{at(0, 0)}, times{at(0, 0)}, times{at(0, 1), at(1, 0)}},
		{"MaxTime", times{at(api.MaxTime, api.MaxTime)}, times{at(api.MaxTime, api.MaxTime)}, times{at(0, api.MaxTime+1), at(api.MaxTime+1, 0)}},
		{"the last round", times{at(2, high), at(5, 0)}, times{at(2, high), at(5, 0)}, times{at(6, 0)}},
		{"the last epoch", times{at(high, 2), at(0, 5)}, times{at(0, 5), at(high, 2)}, times{at(0, 6)}},
		{"both, of two changes", times{at(high, 0), at(0, high)}, times{at(0, high), at(high, 0)}, nil},
		{"both, of one", times{at(high, high)}, times{at(high, high)}, nil},
		{"just not the last", times{at(high-1, high-1)}, times{at(high-1, high-1)}, times{at(0, high), at(high, 0)}},
		{"below 0", times{at(-3, -4), at(-5, -4)}, times{at(-5, -4)}, times{at(0, -3), at(-2, 0)}},
		{"the lowest", times{at(low, low)}, times{at(low, low)}, times{at(0, low+1), at(low+1, 0)}},
	} {
		var l ups
		for i, u := range k.l {
			l = append(l, up(r(-i), u.Epoch, u.Round, 1), up(r(9), high, high, i), up(r(9), high, high, -i)) // what cancels out plays no part
		}
		b, e := batch.New(1, l, nil)
		if e != api.OK || !slices.Equal(b.Lower(), k.lower) || !slices.Equal(b.Upper(), k.upper) {
			t.Errorf("%s: %v, %v, %d, want %v, %v", k.name, b.Lower(), b.Upper(), int(e), k.lower, k.upper)
		}
	}
}

// stairs is a frontier of as many times.
func stairs(many int) times {
	var f times
	for i := range many {
		f = append(f, at(i, many-1-i))
	}
	return f
}

func TestSinceOfManyTimes(t *testing.T) { // P9.1: the greatest that may be, and one more
	l := ups{up(r(1), 0, 0, 1), up(r(1), 0, api.MaxFront, 2), up(r(1), 5, 5, 4), up(r(1), api.MaxTime, api.MaxTime, 8)}
	b, e := batch.New(1, l, stairs(api.MaxFront))
	want, wantErr := asTold(1, l, stairs(api.MaxFront), 4)
	hold(t, "as many as may be", b, e, want, wantErr)
	if wantErr != api.OK {
		t.Fatal("it may be")
	}
	b, e = batch.New(1, l, stairs(api.MaxFront+1))
	hold(t, "one more", b, e, answers{}, api.ErrMany)
}

func TestFaults(t *testing.T) { // P9.1: wrong inputs, and of two the one that the page names first
	fine := ups{up(r(1, 2), 0, 0, 1), up(r(1, 3), 0, 0, 1)}
	short := append(slices.Clone(fine), up(r(1), 0, 0, 1))
	great := append(slices.Clone(fine), up(r(1, 2), 0, 0, high))
	later := append(slices.Clone(fine), up(r(1, 2), 0, 1, high)) // too great once it is advanced
	both := append(slices.Clone(great), short...)
	many := append(stairs(api.MaxFront), at(-1, 0))
	for _, k := range []struct {
		name  string
		key   int
		l     ups
		since times
		e     api.Errno
	}{
		{"no fault", 2, fine, times{at(1, 1)}, api.OK},
		{"key -1", -1, fine, nil, api.ErrArg},
		{"the lowest key", low, fine, nil, api.ErrArg},
		{"key above MaxCols", api.MaxCols + 1, nil, nil, api.ErrArg},
		{"the highest key", high, nil, nil, api.ErrArg},
		{"key above MaxCols, rows as long", api.MaxCols + 1, ups{up(make(api.Row, api.MaxCols+1), 0, 0, 1)}, nil, api.ErrArg},
		{"key ahead of rows", api.MaxCols + 1, fine, nil, api.ErrArg},
		{"key ahead of since", -1, fine, times{at(-1, 0)}, api.ErrArg},
		{"key ahead of sums", -1, great, nil, api.ErrArg},
		{"a short row", 2, short, nil, api.ErrRange},
		{"the first row", 1, ups{up(nil, 0, 0, 1), up(r(1), 0, 0, 1)}, nil, api.ErrRange},
		{"one in the middle", 1, ups{up(r(1), 0, 0, 1), up(api.Row{}, 0, 0, 1), up(r(1), 0, 0, 1)}, nil, api.ErrRange},
		{"a row of one less", api.MaxCols, ups{up(make(api.Row, api.MaxCols-1), 0, 0, 1)}, nil, api.ErrRange},
		{"a short row of 0", 2, ups{up(r(1), 0, 0, 0)}, nil, api.ErrRange},
		{"short rows that cancel out", 2, ups{up(r(1), 0, 0, 1), up(r(1), 0, 0, -1)}, nil, api.ErrRange},
		{"rows ahead of since: ErrMany", 2, short, stairs(api.MaxFront + 1), api.ErrRange},
		{"rows ahead of since: ErrTime", 2, short, times{at(-1, 0)}, api.ErrRange},
		{"rows ahead of since: ErrForm", 2, short, times{at(0, 0), at(1, 1)}, api.ErrRange},
		{"rows ahead of sums", 2, both, nil, api.ErrRange},
		{"too many times", 2, fine, stairs(api.MaxFront + 1), api.ErrMany},
		{"too many ahead of a time that may not be", 2, fine, many, api.ErrMany},
		{"an epoch below 0", 2, fine, times{at(-1, 3)}, api.ErrTime},
		{"a round below 0", 2, fine, times{at(0, -1)}, api.ErrTime},
		{"an epoch above MaxTime", 2, fine, times{at(0, 1), at(api.MaxTime+1, 0)}, api.ErrTime},
		{"a round above MaxTime", 2, fine, times{at(0, api.MaxTime+1)}, api.ErrTime},
		{"such a time ahead of form", 2, fine, times{at(5, 5), at(0, 0), at(0, -1)}, api.ErrTime},
		{"not in order", 2, fine, times{at(1, 0), at(0, 1)}, api.ErrForm},
		{"the same time twice", 2, fine, times{at(1, 1), at(1, 1)}, api.ErrForm},
		{"one that is LessEq another one", 2, fine, times{at(0, 0), at(0, 1)}, api.ErrForm},
		{"no change, no frontier", 2, nil, times{at(0, 0), at(1, 0)}, api.ErrForm},
		{"many ahead of sums", 2, great, stairs(api.MaxFront + 1), api.ErrMany},
		{"time ahead of sums", 2, great, times{at(-1, 0)}, api.ErrTime},
		{"form ahead of sums", 2, great, times{at(1, 0), at(0, 1)}, api.ErrForm},
		{"too great", 2, great, nil, api.ErrOver},
		{"too great, since", 2, great, times{at(7, 7)}, api.ErrOver},
		{"not too great as it is", 2, later, nil, api.OK},
		{"not too great since the first time", 2, later, times{at(0, 0)}, api.OK},
		{"too great once it is advanced", 2, later, times{at(0, 1)}, api.ErrOver},
		{"too great on the way alone", 2, ups{up(r(1, 2), 0, 0, high), up(r(1, 2), 0, 0, 1), up(r(1, 2), 0, 0, -1)}, nil, api.ErrOver},
		{"not too great as it stands", 2, ups{up(r(1, 2), 0, 0, high), up(r(1, 2), 0, 0, -1), up(r(1, 2), 0, 0, 1)}, nil, api.OK},
		{"too great once advanced, as it stands", 1, ups{up(r(1), 0, 0, low), up(r(1), 0, 1, -1), up(r(1), 0, 0, 5)}, times{at(0, 1)}, api.ErrOver},
	} {
		want, wantErr := asTold(k.key, k.l, k.since, len(k.l))
		if wantErr != k.e {
			t.Fatalf("%s: the table says %d, the reference %d", k.name, int(k.e), int(wantErr))
		}
		b, e := batch.New(k.key, k.l, k.since)
		hold(t, k.name, b, e, want, k.e)
		b, e = batch.Weighed(k.key, k.l, k.since, len(k.l))
		hold(t, k.name+", weighed", b, e, want, k.e)
		b, e = batch.Weighed(k.key, k.l, k.since, -1)
		hold(t, k.name+", weighed wrongly", b, e, answers{}, api.ErrArg)
	}
}

func TestNilBatch(t *testing.T) { // P9.1: zeros, nothing
	hold(t, "nil", nil, api.ErrNil, answers{}, api.ErrNil)
	for _, i := range []int{low, -1, 0, 1, high} {
		var b *batch.Batch
		if b.Rests(i) != nil || b.Run(i) != nil {
			t.Errorf("a nil batch has something at %d", i)
		}
	}
}

func TestBatchThatNoCallMade(t *testing.T) { // the rule of ends: what it answers is open, but it answers
	b := new(batch.Batch)
	asked(b)
	b.Rests(0)
	b.Run(0)
}

// laden is the row with the fields that play no part filled by some number.
func laden(r api.Row, by int) api.Row {
	r = slices.Clone(r)
	for i := range r {
		if r[i].Kind != api.KindInt {
			r[i].Int = by
		}
		if r[i].Kind != api.KindStr {
			r[i].Str = string(rune('a' + by&7))
		}
	}
	return r
}

func TestRowsThatDifferWhereItPlaysNoPart(t *testing.T) { // P9.1, P9.2, the rule of rows
	one, two := r(1, "a", 5), r(1, "b")
	one, two = append(one, api.Val{Kind: 7}), append(two, api.Val{Kind: -7})
	var l ups
	for i := range 12 {
		l = append(l, up(laden(one, i), 0, i%2, 1), up(laden(two, i), 0, 0, 1-i%3))
	}
	for key := range 4 {
		if key > len(two) {
			continue
		}
		b, e := batch.New(key, l, nil)
		want, wantErr := asTold(key, ups{up(one, 0, 0, 6), up(one, 0, 1, 6)}, nil, len(l))
		hold(t, "laden", b, e, want, wantErr)
	}
}

// roomy is a list with spare room behind it, filled by what must stay there.
func roomy[T any](l []T, fill T) []T {
	room := make([]T, 0, len(l)+3)
	room = append(room, l...)
	spare := room[:cap(room)]
	for i := len(l); i < len(spare); i++ {
		spare[i] = fill
	}
	return room
}

// handed are arguments with spare room in each list.
func handed() (ups, times) {
	var l ups
	for i, u := range (ups{up(r(2, "b"), 1, 0, 5), up(r(1, "b"), 0, 3, 1), up(r(1, "b", 9), 0, 0, 1), up(r(1, "b"), 0, 3, 2), up(r(2, "a"), 0, 0, 3)}) {
		u.Row = roomy(u.Row, n(100+i))
		l = append(l, u)
	}
	return roomy(l, up(r(77), 7, 7, 7)), roomy(times{at(0, 1), at(1, 0)}, at(8, 8))
}

// whole is each list with its spare room, as a text.
func whole(l ups, since times) string {
	var text strings.Builder
	for _, u := range l[:cap(l)] {
		fmt.Fprint(&text, u.Row[:cap(u.Row)], len(u.Row), u.Time, u.Diff, ";")
	}
	fmt.Fprint(&text, since[:cap(since)])
	return text.String()
}

func TestWhatIsHandedIn(t *testing.T) { // the rule of memory: neither changed nor kept
	for _, empty := range []bool{false, true} {
		for key := range 3 {
			l, since := handed()
			if empty {
				since = since[:0]
			}
			fresh, sinceThen := slices.Clone(l), slices.Clone(since)
			for i := range fresh {
				fresh[i].Row = slices.Clone(fresh[i].Row)
			}
			want, wantErr := asTold(key, fresh, sinceThen, len(fresh))
			was := whole(l, since)
			b, e := batch.New(key, l, since)
			if is := whole(l, since); is != was {
				t.Fatalf("%s has become %s", was, is)
			}
			overwrite(l, since)
			hold(t, "written over", b, e, want, wantErr)
			asked(b)
			now := whole(l, since)
			asked(b)
			if is := whole(l, since); is != now {
				t.Fatalf("asked, %s has become %s", now, is)
			}
		}
	}
}

// overwrite: all that is there, with the spare room.
func overwrite(l ups, since times) {
	for i := range l[:cap(l)] {
		u := &l[:cap(l)][i]
		for k := range u.Row[:cap(u.Row)] {
			u.Row[:cap(u.Row)][k] = s("gone")
		}
		*u = up(nil, -5, -5, -5)
	}
	for i := range since[:cap(since)] {
		since[:cap(since)][i] = at(-6, -6)
	}
}

// places are where the values of answers lie, each of which may be told but once.
type places map[unsafe.Pointer]string

func (p places) take(t *testing.T, name string, place unsafe.Pointer) {
	t.Helper()
	if other, there := p[place]; there {
		t.Fatalf("%s lies where %s does", name, other)
	}
	p[place] = name
}

func takeAll[T any](t *testing.T, p places, name string, l []T) {
	t.Helper()
	for i := range l[:cap(l)] {
		p.take(t, name, unsafe.Pointer(&l[:cap(l)][i]))
	}
}

func (p places) takeRows(t *testing.T, name string, l rows) {
	t.Helper()
	takeAll(t, p, name, l)
	for _, r := range l {
		takeAll(t, p, name+"'s row", r)
	}
}

func (p places) takeUps(t *testing.T, name string, l ups) {
	t.Helper()
	takeAll(t, p, name, l)
	for _, u := range l {
		takeAll(t, p, name+"'s row", u.Row)
	}
}

func (p places) takeAnswers(t *testing.T, a answers) {
	t.Helper()
	p.takeRows(t, "Keys", a.keys)
	for _, l := range a.rests {
		p.takeRows(t, "Rests", l)
	}
	for _, l := range a.runs {
		p.takeUps(t, "Run", l)
	}
	p.takeUps(t, "Ups", a.ups)
	takeAll(t, p, "Lower", a.lower)
	takeAll(t, p, "Upper", a.upper)
	takeAll(t, p, "Since", a.since)
}

// spoil writes over all that was answered, its spare room too, and appends to each list.
func (a answers) spoil() {
	spoilRows(a.keys)
	for _, l := range a.rests {
		spoilRows(l)
	}
	for _, l := range append(a.runs, a.ups) {
		for i := range l {
			spoilRow(l[i].Row)
			l[i] = up(r("spoilt"), -1, -1, -1)
		}
		_ = append(l, up(r("spoilt"), -1, -1, -1))
	}
	for _, l := range []times{a.lower, a.upper, a.since} {
		for i := range l[:cap(l)] {
			l[:cap(l)][i] = at(-1, -1)
		}
		_ = append(l, at(-2, -2))
	}
}

func spoilRows(l rows) {
	for i := range l {
		spoilRow(l[i])
		l[i] = r("spoilt")
	}
	_ = append(l, r("spoilt"))
}

func spoilRow(l api.Row) {
	_ = append(l, s("spoilt"), s("spoilt"))
	for i := range l[:cap(l)] {
		l[:cap(l)][i] = s("spoilt")
	}
}

func TestAnswersAreTheirOwn(t *testing.T) { // the rule of memory: what is answered is shared with nothing
	l, since := handed()
	for _, f := range []times{nil, since} {
		for key := range 3 {
			p := places{}
			p.takeUps(t, "l", l[:len(l):len(l)])
			takeAll(t, p, "since", f)
			b, e := batch.New(key, l, f)
			want, wantErr := asTold(key, l, f, len(l))
			hold(t, "at first", b, e, want, wantErr)
			for range 3 {
				got := asked(b)
				p.takeAnswers(t, got)
				got.spoil()
				hold(t, "once more", b, e, want, wantErr)
			}
		}
	}
}

func TestAppendedRowsStayApart(t *testing.T) { // the rule of memory: spare room, too
	l := ups{up(r(1, "a"), 0, 0, 1), up(r(1, "b"), 0, 0, 1), up(r(2, "a"), 0, 0, 1), up(r(2, "a"), 0, 1, 1)}
	b, _ := batch.New(1, l, nil)
	want, _ := asTold(1, l, nil, 4)
	got := asked(b)
	for _, list := range append([]rows{got.keys}, got.rests...) {
		for _, k := range list {
			_ = append(k, s("more"))
		}
	}
	for _, list := range append([]ups{got.ups}, got.runs...) {
		for _, u := range list {
			_ = append(u.Row, s("more"))
		}
	}
	if d := differ(got, want); d != "" {
		t.Errorf("what is appended to a row shows in %s: %s", d, told(got))
	}
	hold(t, "appended to", b, api.OK, want, api.OK)
}

func TestNilAndEmptyAreAlike(t *testing.T) { // the rule of memory
	for key := range 2 {
		for _, l := range []ups{nil, {}} {
			for _, since := range []times{nil, {}} {
				b, e := batch.New(key, l, since)
				hold(t, "empty", b, e, answers{key: key, upper: times{at(0, 0)}}, api.OK)
			}
		}
	}
	l := ups{up(nil, 1, 1, 1), up(api.Row{}, 1, 1, 1)}
	for _, since := range []times{nil, {}} {
		b, e := batch.New(0, l, since)
		all := ups{up(nil, 1, 1, 2)}
		hold(t, "empty rows", b, e, answers{length: 1, weight: 2, keys: rows{nil}, rests: []rows{{nil}}, runs: []ups{all}, ups: all, lower: times{at(1, 1)}, upper: times{at(0, 2), at(2, 0)}}, api.OK)
	}
}

// dice are numbers that look like chance, the same in each run.
type dice uint64

func (d *dice) roll(sides int) int {
	*d = *d*6364136223846793005 + 1442695040888963407
	return int(uint64(*d) >> 33 % uint64(sides))
}

// someRow is one of few rows, at least so long.
func (d *dice) someRow(least int) api.Row {
	var told api.Row
	for range least + d.roll(3) {
		if d.roll(4) == 0 {
			told = append(told, s("ab"[d.roll(2):][:1]))
		} else {
			told = append(told, n(d.roll(3)))
		}
	}
	return laden(told, d.roll(9))
}

func (d *dice) someTime() api.Time {
	if d.roll(40) == 0 {
		return []api.Time{at(high, 0), at(0, high), at(-1, 2), at(low, high), at(api.MaxTime, 1)}[d.roll(5)]
	}
	return at(d.roll(4), d.roll(4))
}

func (d *dice) someUps(many, least int) ups {
	var l ups
	for range many {
		diff := d.roll(5) - 2
		if d.roll(60) == 0 {
			diff = []int{high, low, high - 1, -high}[d.roll(4)]
		}
		l = append(l, api.Up{Row: d.someRow(least), Time: d.someTime(), Diff: diff})
	}
	return l
}

func (d *dice) someSince() times {
	var l times
	for range d.roll(4) {
		l = append(l, at(d.roll(5), d.roll(5)))
	}
	return least(l)
}

// holdFollows asks what follows, P9.4.
func holdFollows(t *testing.T, b *batch.Batch) {
	t.Helper()
	var all ups
	for i := range b.Keys() {
		all = append(all, b.Run(i)...)
	}
	if !zset.Same(all, b.Ups()) {
		t.Fatalf("all runs are %s, the changes %s", told(all), told(b.Ups()))
	}
	for _, u := range b.Ups() {
		if !front.Ahead(b.Lower(), u.Time) || front.Ahead(b.Upper(), u.Time) {
			t.Fatalf("%v is not from %v up to %v", u.Time, b.Lower(), b.Upper())
		}
	}
}

func TestGenerated(t *testing.T) { // P9.1 to P9.4
	d := dice(9)
	seen := map[api.Errno]int{}
	for range 6000 {
		key, since := d.roll(4), d.someSince()
		l := d.someUps(d.roll(30), key)
		if d.roll(20) == 0 {
			since = append(since, d.someTime())
		}
		if d.roll(20) == 0 {
			key += d.roll(3) - 1
		}
		want, wantErr := asTold(key, l, since, len(l))
		seen[wantErr]++
		b, e := batch.New(key, l, since)
		hold(t, told(l), b, e, want, wantErr)
		weight := d.roll(9) - 1
		want, wantErr = asTold(key, l, since, weight)
		b, e = batch.Weighed(key, l, since, weight)
		hold(t, told(l), b, e, want, wantErr)
		holdFollows(t, b)
	}
	for _, e := range []api.Errno{api.OK, api.ErrArg, api.ErrRange, api.ErrTime, api.ErrForm, api.ErrOver} {
		if seen[e] == 0 {
			t.Errorf("no list with error %d", int(e))
		}
	}
}

// shortLists calls visit with each list of up to so many of these.
func shortLists(of ups, most int, l ups, visit func(ups)) {
	visit(l)
	if most == 0 {
		return
	}
	for _, u := range of {
		shortLists(of, most-1, append(l[:len(l):len(l)], u), visit)
	}
}

func TestEachShortList(t *testing.T) { // P9.1 to P9.4
	of := ups{up(r(1), 0, 0, 1), up(r(1), 0, 0, -1), up(r(1), 1, 0, high), up(r(1, 1), 0, 1, 2), up(r(2, 1), 0, 0, -1), up(nil, 0, 0, 1)}
	for _, since := range []times{nil, {at(0, 0)}, {at(1, 0)}, {at(0, 2), at(2, 1)}, {at(1, 0), at(0, 1)}} {
		for key := range 3 {
			shortLists(of, 4, nil, func(l ups) {
				want, wantErr := asTold(key, l, since, len(l))
				b, e := batch.New(key, l, since)
				hold(t, told(l), b, e, want, wantErr)
				holdFollows(t, b)
			})
		}
	}
}

func TestMany(t *testing.T) { // P9.1 to P9.4: a long list, told by a rule
	const keys, rests, moments = 60, 20, 5
	var l ups
	for i := range 2 * keys * rests * moments {
		at := i * 7919 % (keys * rests * moments)
		l = append(l, up(r(at%keys, at/keys%rests), 0, at/keys/rests, 1))
	}
	b, e := batch.New(1, l, nil)
	if e != api.OK || b.Len() != len(l)/2 || b.Weight() != len(l) || len(b.Keys()) != keys {
		t.Fatalf("%d of %d, %d keys, %d", b.Len(), b.Weight(), len(b.Keys()), int(e))
	}
	all := b.Ups()
	for k := range keys {
		if run := b.Run(k); !sameUps(run, all[k*rests*moments:(k+1)*rests*moments]) || !row.Same(b.Keys()[k], r(k)) {
			t.Fatalf("key %d: %s", k, told(run))
		}
		for i, rest := range b.Rests(k) {
			if !row.Same(rest, r(i)) {
				t.Fatalf("key %d: rest %d is %v", k, i, rest)
			}
		}
	}
	for i, u := range all {
		if !row.Same(u.Row, r(i/moments/rests, i/moments%rests)) || u.Time != at(0, i%moments) || u.Diff != 2 {
			t.Fatalf("%d is %v", i, u)
		}
	}
	holdFollows(t, b)
}

func TestArgumentsAlone(t *testing.T) { // the rule of arguments: other batches beside it change nothing
	d := dice(4)
	l := d.someUps(25, 1)
	want, wantErr := asTold(1, l, nil, len(l))
	b, e := batch.New(1, l, nil)
	for range 20 {
		other, otherErr := batch.New(0, d.someUps(25, 0), d.someSince())
		if otherErr == api.OK {
			asked(other)
		}
		hold(t, "the first one", b, e, want, wantErr)
		again, e := batch.New(1, l, nil)
		hold(t, "once more", again, e, want, wantErr)
	}
}

func FuzzBatches(f *testing.F) {
	f.Add(uint64(1), 1, 10, 0)
	f.Add(uint64(2), 0, 40, 3)
	f.Add(uint64(3), 16, 3, -1)
	f.Fuzz(func(t *testing.T, seed uint64, key, many, weight int) {
		d := dice(seed)
		l, since := d.someUps(many&63, max(0, key)&3), d.someSince()
		want, wantErr := asTold(key, l, since, weight)
		b, e := batch.Weighed(key, l, since, weight)
		hold(t, told(l), b, e, want, wantErr)
		holdFollows(t, b)
	})
}

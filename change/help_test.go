package change_test

import (
	"encoding/hex"
	"fmt"
	"math"
	"slices"
	"strings"

	"runnel/api"
)

const (
	low  = math.MinInt
	high = math.MaxInt
)

// many is so many of one thing.
func many[T any](count int, x T) []T { return slices.Repeat([]T{x}, count) }

// join is bytes one behind the other, in memory of their own.
func join(l ...[]byte) []byte { return slices.Concat(l...) }

// r is a row of numbers and texts.
func r(values ...any) api.Row {
	var l api.Row
	for _, v := range values {
		switch x := v.(type) {
		case int:
			l = append(l, api.Val{Kind: api.KindInt, Int: x})
		case string:
			l = append(l, api.Val{Kind: api.KindStr, Str: x})
		case api.Val:
			l = append(l, x)
		}
	}
	return l
}

func pair(epoch, round int) api.Time { return api.Time{Epoch: epoch, Round: round} }

func times(l ...api.Time) []api.Time { return l }

// came is a note of a change.
func came(out int, row api.Row, epoch, round, diff int) api.Note {
	return api.Note{Out: out, IsUp: true, Up: api.Up{Row: row, Time: pair(epoch, round), Diff: diff}}
}

// upTo is a note of a frontier.
func upTo(out int, l ...api.Time) api.Note { return api.Note{Out: out, Front: l} }

func notes(l ...api.Note) []api.Note { return l }

// and is a log with more notes behind it, in memory of its own.
func and(l []api.Note, more ...api.Note) []api.Note { return slices.Concat(l, more) }

// rising are so many times, each with a greater epoch and a lesser round than the one ahead of it: a frontier.
func rising(count int) []api.Time {
	var l []api.Time
	for i := range count {
		l = append(l, pair(i, count-1-i))
	}
	return l
}

// pageLog is the log of the page's example.
func pageLog() []api.Note {
	return notes(came(0, r("a"), 0, 0, 1), upTo(0, pair(1, 0)))
}

// sample is a log of four outs: one with changes and frontiers mixed, one to which nothing comes any more, one whose frontier is noted twice, one without a note.
func sample() []api.Note {
	return notes(
		came(0, r(7, "a"), 0, 0, 1),
		came(2, r("b"), 3, 1, -2),
		upTo(0, pair(0, 2), pair(1, 0)),
		came(0, r(7, "a"), 1, 0, -1),
		came(0, r(7, "a"), 0, 5, 4),
		came(1, nil, 9, 9, 5),
		upTo(2, pair(0, 0)),
		upTo(2, pair(0, 0)),
		upTo(0, pair(0, 3), pair(2, 0)),
		came(2, r(low, high, ""), 0, 7, high),
		upTo(2, pair(4, 4)),
		came(0, r(-3), 0, 3, 2),
		upTo(1),
		upTo(1),
		came(2, r("b"), 4, 4, low),
		came(0, r(7), 2, 0, 0),
	)
}

const sampleOuts = 4

// oddUp is a change in which nothing may be as it is.
func oddUp() api.Up {
	row := append(r(strings.Repeat("x", 4097), api.Val{Kind: 2}), many(16, api.Val{Kind: -1})...)
	return api.Up{Row: row, Time: pair(-1, low), Diff: low}
}

// odd is a note whose fields that play no part are what may not be.
func odd(n api.Note) api.Note {
	if n.IsUp {
		n.Front = many(1025, pair(low, -1))
	} else {
		n.Up = oddUp()
	}
	return n
}

func oddAll(l []api.Note) []api.Note {
	var out []api.Note
	for _, n := range l {
		out = append(out, odd(n))
	}
	return out
}

// plain is a note of the fields alone that play a part.
func plain(n api.Note) api.Note {
	if n.IsUp {
		return api.Note{Out: n.Out, IsUp: true, Up: n.Up}
	}
	return api.Note{Out: n.Out, Front: n.Front}
}

func plainAll(l []api.Note) []api.Note {
	var out []api.Note
	for _, n := range l {
		out = append(out, plain(n))
	}
	return out
}

type rowFault struct {
	row  api.Row
	want api.Errno
}

// wrongRows are rows that may not be, and why.
func wrongRows() map[string]rowFault {
	long := strings.Repeat("x", 4097)
	strange := api.Val{Kind: 2}
	return map[string]rowFault{
		"17 values":                     {many(17, api.Val{}), api.ErrMany},
		"17 values, and a kind":         {many(17, strange), api.ErrMany},
		"17 values, and a text":         {r(append(many[any](16, 1), long)...), api.ErrMany},
		"very many values":              {many(5000, api.Val{}), api.ErrMany},
		"a kind above":                  {r(strange), api.ErrKind},
		"a kind below":                  {r(1, "a", api.Val{Kind: -1}), api.ErrKind},
		"the least kind":                {r(api.Val{Kind: low}), api.ErrKind},
		"the greatest kind":             {r(api.Val{Kind: high}), api.ErrKind},
		"a kind that is 0 in one byte":  {r(api.Val{Kind: 256}), api.ErrKind},
		"a long text":                   {r(long), api.ErrLong},
		"a long text at the end":        {r(append(many[any](15, "a"), long)...), api.ErrLong},
		"a long text ahead of a kind":   {r(1, long, strange), api.ErrLong},
		"a kind ahead of a long text":   {r(1, strange, long), api.ErrKind},
		"a kind, and a text it has not": {r(api.Val{Kind: 3, Str: long}), api.ErrKind},
	}
}

// noTimes are such as moment.Check does not take.
func noTimes() []api.Time {
	return times(pair(-1, 0), pair(0, -1), pair(-1, -1), pair(low, 5), pair(5, low), pair(1<<40+1, 0), pair(0, 1<<40+1),
		pair(5, 1<<40+1), pair(high, high), pair(high, 0), pair(9, high), pair(low, high), pair(1<<40+1, -1))
}

type frontFault struct {
	front []api.Time
	want  api.Errno
}

// wrongFronts are frontiers that front.Check refuses, and why.
func wrongFronts() map[string]frontFault {
	l := map[string]frontFault{
		"1025 times":                     {rising(1025), api.ErrMany},
		"1025 times that are none":       {many(1025, pair(-1, -1)), api.ErrMany},
		"very many times":                {many(5000, pair(9, 9)), api.ErrMany},
		"a time twice":                   {times(pair(9, 9), pair(9, 9)), api.ErrForm},
		"times that are not in order":    {times(pair(9, 5), pair(5, 9)), api.ErrForm},
		"a time that is LessEq another":  {times(pair(5, 5), pair(6, 5)), api.ErrForm},
		"one of the same round, behind":  {times(pair(5, 5), pair(6, 9)), api.ErrForm},
		"the last of 1024 is LessEq one": {append(rising(1023), pair(1023, 0)), api.ErrForm},
		"no time, ahead of the order":    {times(pair(9, 5), pair(5, 9), pair(-1, 3)), api.ErrTime},
	}
	for _, t := range noTimes() {
		l[fmt.Sprint("no time: ", t)] = frontFault{times(t), api.ErrTime}
		l[fmt.Sprint("no time behind one: ", t)] = frontFault{times(pair(50, 50), t), api.ErrTime}
	}
	return l
}

type noteFault struct {
	note api.Note
	want api.Errno
}

// wrongNotes are notes that may not come behind sample, and why.
func wrongNotes() map[string]noteFault {
	l := map[string]noteFault{
		"a change ahead of the frontier":        {came(0, r(1), 0, 2, 1), api.ErrTime},
		"one between its times":                 {came(0, r(1), 1, 2, 1), api.ErrTime},
		"one of the time (0, 0)":                {came(0, r(1), 0, 0, 1), api.ErrTime},
		"one of nothing, ahead of it":           {came(0, r(1), 1, 1, 0), api.ErrTime},
		"one round ahead":                       {came(2, r("b"), 4, 3, 1), api.ErrTime},
		"one epoch ahead":                       {came(2, r("b"), 3, 1<<40, 1), api.ErrTime},
		"a change behind an empty frontier":     {came(1, r(1), 1, 1, 1), api.ErrTime},
		"the last one behind an empty frontier": {came(1, r(1), 1<<40, 1<<40, 1), api.ErrTime},
		"a frontier that goes back":             {upTo(0, pair(0, 2), pair(1, 0)), api.ErrTime},
		"one time of which goes back":           {upTo(0, pair(0, 3), pair(1, 2)), api.ErrTime},
		"the frontier of the beginning":         {upTo(2, pair(0, 0)), api.ErrTime},
		"a frontier aside":                      {upTo(2, pair(3, 5)), api.ErrTime},
		"a frontier behind an empty one":        {upTo(1, pair(1<<40, 1<<40)), api.ErrTime},
		"a wrong row ahead of a wrong time":     {came(0, r(api.Val{Kind: 2}), -1, 0, 1), api.ErrKind},
		"a wrong row ahead of an early time":    {came(0, many(17, api.Val{}), 0, 0, 1), api.ErrMany},
		"a wrong row behind an empty frontier":  {came(1, r(strings.Repeat("x", 4097)), 1, 1, 1), api.ErrLong},
	}
	for _, out := range []int{low, -1 << 32, -8, -1, 4, 5, 7, 8, 9, 256, 1 << 32, high} {
		l[fmt.Sprint("a change of the out ", out)] = noteFault{came(out, r(1), 50, 50, 1), api.ErrRange}
		l[fmt.Sprint("a frontier of the out ", out)] = noteFault{upTo(out, pair(50, 50)), api.ErrRange}
		l[fmt.Sprint("no frontier, of the out ", out)] = noteFault{upTo(out), api.ErrRange}
		l[fmt.Sprint("what may not be, of the out ", out)] = noteFault{api.Note{Out: out, IsUp: true, Up: oddUp()}, api.ErrRange}
		l[fmt.Sprint("a frontier that is none, of the out ", out)] = noteFault{upTo(out, rising(1025)...), api.ErrRange}
	}
	for name, wrong := range wrongRows() {
		l["a row: "+name] = noteFault{came(2, wrong.row, 50, 50, 1), wrong.want}
	}
	for name, wrong := range wrongFronts() {
		l["a frontier: "+name] = noteFault{upTo(2, wrong.front...), wrong.want}
		l["behind an empty frontier: "+name] = noteFault{upTo(1, wrong.front...), wrong.want}
	}
	for _, t := range noTimes() {
		l[fmt.Sprint("a change at no time: ", t)] = noteFault{came(3, r(1), t.Epoch, t.Round, 1), api.ErrTime}
	}
	return l
}

// edgeNotes are notes of any out that just may be told as bytes.
func edgeNotes() map[string]api.Note {
	longRow := many(16, api.Val{Kind: api.KindStr, Str: strings.Repeat("é", 2048)})
	return map[string]api.Note{
		"a row of no value":           came(0, nil, 0, 0, 1),
		"an empty row":                came(0, api.Row{}, 0, 0, 1),
		"a row of MaxCols values":     came(0, r(many[any](16, -1)...), 0, 0, 1),
		"a text of no byte":           came(0, r(""), 0, 0, 1),
		"a text of MaxText bytes":     came(0, r(1, strings.Repeat("x", 4096)), 0, 0, 1),
		"MaxCols texts of MaxText":    came(0, longRow, 0, 0, 1),
		"bytes that are no text":      came(0, r("\xff\xfe\x00\x80", "\xc3"), 0, 0, 1),
		"least and greatest of a row": came(0, r(low, high), 0, 0, 1),
		"a change of nothing":         came(0, r(1), 0, 0, 0),
		"the least Diff":              came(0, r(1), 0, 0, low),
		"the greatest Diff":           came(0, r(1), 0, 0, high),
		"the last time":               came(0, r(1), 1<<40, 1<<40, 1),
		"fields that play no part":    came(0, r(api.Val{Kind: 0, Int: 3, Str: strings.Repeat("x", 5000)}, api.Val{Kind: 1, Int: low, Str: "a"}), 0, 0, 1),
		"a Front of a change":         odd(came(0, r(5, "a"), 1, 2, -3)),
		"a change of a Front":         odd(upTo(0, pair(1, 2), pair(2, 1))),
		"a Front of no time":          upTo(0),
		"an empty Front":              {Front: []api.Time{}},
		"a Front of one time":         upTo(0, pair(0, 0)),
		"a Front of 127 times":        upTo(0, rising(127)...),
		"a Front of 128 times":        upTo(0, rising(128)...),
		"a Front of 1023 times":       upTo(0, rising(1023)...),
		"a Front of 1024 times":       upTo(0, rising(1024)...),
		"a Front of the last time":    upTo(0, pair(1<<40, 1<<40)),
	}
}

// freeNotes are notes of which nothing is asked where they are told as bytes, though they come in no log.
func freeNotes() map[string]api.Note {
	return map[string]api.Note{
		"the least out":              came(low, r(1), 0, 0, 1),
		"the greatest out":           upTo(high, pair(0, 0)),
		"an out below 0":             came(-1, r(1), 0, 0, 1),
		"an out of MaxOuts":          upTo(8, pair(1, 1)),
		"a time below 0":             came(0, r(1), -1, -2, 1),
		"the least time of a change": came(0, r(1), low, low, 1),
		"the greatest time of one":   came(0, r(1), high, high, 1),
		"a time above MaxTime":       came(0, r(1), 1<<40+1, 0, 1),
		"a Front of no times":        upTo(0, noTimes()...),
		"a Front that is not sorted": upTo(0, pair(3, 3), pair(2, 2), pair(3, 3)),
		"a time 1024 times":          upTo(0, many(1024, pair(low, high))...),
	}
}

// sameVal: what tells of a value, and no more.
func sameVal(a, b api.Val) bool {
	return a.Kind == b.Kind && (a.Kind != api.KindInt || a.Int == b.Int) && (a.Kind != api.KindStr || a.Str == b.Str)
}

func sameRow(a, b api.Row) bool { return slices.EqualFunc(a, b, sameVal) }

// same: are two notes alike, nil and empty lists too?
func same(a, b api.Note) bool {
	return a.Out == b.Out && a.IsUp == b.IsUp && a.Up.Time == b.Up.Time && a.Up.Diff == b.Up.Diff &&
		sameRow(a.Up.Row, b.Up.Row) && slices.Equal(a.Front, b.Front)
}

func sameAll(a, b []api.Note) bool { return slices.EqualFunc(a, b, same) }

func sameCounts(a, b []api.Count) bool {
	return slices.EqualFunc(a, b, func(x, y api.Count) bool { return x.Diff == y.Diff && sameRow(x.Row, y.Row) })
}

// fromHex is bytes that are told by hand; what stands between them is left out.
func fromHex(s string) []byte {
	b, err := hex.DecodeString(strings.Join(strings.Fields(s), ""))
	if err != nil {
		panic(err)
	}
	return b
}

// brief is a thing as a text, the beginning of it.
func brief(x any) string { return fmt.Sprintf("%.600q", fmt.Sprintf("%+v", x)) }

// short is bytes as a text, the first and the last of them.
func short(b []byte) string {
	if len(b) <= 300 {
		return hex.EncodeToString(b)
	}
	return fmt.Sprintf("%x..%x (%d)", b[:200], b[len(b)-100:], len(b))
}

package view_test

import (
	"fmt"
	"math"
	"slices"
	"strings"

	"runnel/api"
)

const (
	low  = math.MinInt
	high = math.MaxInt
	last = 1 << 40 // the greatest Epoch, and the greatest Round
)

// many is so many of one thing.
func many[T any](count int, x T) []T { return slices.Repeat([]T{x}, count) }

// r is a row of numbers and texts.
func r(values ...any) api.Row {
	var l api.Row
	for _, v := range values {
		switch x := v.(type) {
		case int:
			l = append(l, api.Val{Kind: api.KindInt, Int: x})
		case string:
			l = append(l, api.Val{Kind: api.KindStr, Str: x})
		case api.Val:
			l = append(l, x)
		}
	}
	return l
}

func at(epoch, round int) api.Time { return api.Time{Epoch: epoch, Round: round} }

func times(l ...api.Time) []api.Time { return l }

// came is a note of a change.
func came(out int, row api.Row, epoch, round, diff int) api.Note {
	return api.Note{Out: out, IsUp: true, Up: api.Up{Row: row, Time: at(epoch, round), Diff: diff}}
}

// upTo is a note of a frontier.
func upTo(out int, l ...api.Time) api.Note { return api.Note{Out: out, Front: l} }

func notes(l ...api.Note) []api.Note { return l }

func counts(l ...api.Count) []api.Count { return l }

func count(row api.Row, diff int) api.Count { return api.Count{Row: row, Diff: diff} }

// rising are so many times, each with a greater epoch and a lesser round than the one ahead of it: a frontier.
func rising(count int) []api.Time {
	var l []api.Time
	for i := range count {
		l = append(l, at(i, count-1-i))
	}
	return l
}

// oddUp is a change in which nothing may be as it is.
func oddUp() api.Up {
	row := append(r(strings.Repeat("x", 4097), api.Val{Kind: 2}), many(16, api.Val{Kind: -1})...)
	return api.Up{Row: row, Time: at(-1, low), Diff: low}
}

// odd is a note whose fields that play no part are what may not be.
func odd(n api.Note) api.Note {
	if n.IsUp {
		n.Front = many(1025, at(low, -1))
	} else {
		n.Up = oddUp()
	}
	return n
}

type rowFault struct {
	row  api.Row
	want api.Errno
}

// wrongRows are rows that may not be, and why.
func wrongRows() map[string]rowFault {
	long := strings.Repeat("x", 4097)
	strange := api.Val{Kind: 2}
	return map[string]rowFault{
		"17 values":                     {many(17, api.Val{}), api.ErrMany},
		"17 values, and a kind":         {many(17, strange), api.ErrMany},
		"17 values, and a text":         {r(append(many[any](16, 1), long)...), api.ErrMany},
		"very many values":              {many(5000, api.Val{}), api.ErrMany},
		"a kind above":                  {r(strange), api.ErrKind},
		"a kind below":                  {r(1, "a", api.Val{Kind: -1}), api.ErrKind},
		"the least kind":                {r(api.Val{Kind: low}), api.ErrKind},
		"the greatest kind":             {r(api.Val{Kind: high}), api.ErrKind},
		"a kind that is 0 in one byte":  {r(api.Val{Kind: 256}), api.ErrKind},
		"a long text":                   {r(long), api.ErrLong},
		"a long text at the end":        {r(append(many[any](15, "a"), long)...), api.ErrLong},
		"a long text ahead of a kind":   {r(1, long, strange), api.ErrLong},
		"a kind ahead of a long text":   {r(1, strange, long), api.ErrKind},
		"a kind, and a text it has not": {r(api.Val{Kind: 3, Str: long}), api.ErrKind},
	}
}

// noTimes are such as moment.Check does not take.
func noTimes() []api.Time {
	return times(at(-1, 0), at(0, -1), at(-1, -1), at(low, 5), at(5, low), at(last+1, 0), at(0, last+1),
		at(5, last+1), at(high, high), at(high, 0), at(9, high), at(low, high), at(last+1, -1))
}

type frontFault struct {
	front []api.Time
	want  api.Errno
}

// wrongFronts are frontiers that front.Check refuses, and why.
func wrongFronts() map[string]frontFault {
	l := map[string]frontFault{
		"1025 times":                     {rising(1025), api.ErrMany},
		"1025 times that are none":       {many(1025, at(-1, -1)), api.ErrMany},
		"very many times":                {many(5000, at(9, 9)), api.ErrMany},
		"a time twice":                   {times(at(9, 9), at(9, 9)), api.ErrForm},
		"times that are not in order":    {times(at(9, 5), at(5, 9)), api.ErrForm},
		"a time that is LessEq another":  {times(at(5, 5), at(6, 5)), api.ErrForm},
		"one of the same round, behind":  {times(at(5, 5), at(6, 9)), api.ErrForm},
		"the last of 1024 is LessEq one": {append(rising(1023), at(1023, 0)), api.ErrForm},
		"no time, ahead of the order":    {times(at(9, 5), at(5, 9), at(-1, 3)), api.ErrTime},
	}
	for _, t := range noTimes() {
		l[fmt.Sprint("no time: ", t)] = frontFault{times(t), api.ErrTime}
		l[fmt.Sprint("no time behind one: ", t)] = frontFault{times(at(50, 50), t), api.ErrTime}
	}
	return l
}

// noOuts are numbers that no out of a view of so many has.
func noOuts(outs int) []int {
	return []int{low, -1 << 32, -9, -8, -2, -1, outs, outs + 1, 8, 9, 16, 255, 256, 1 << 32, 1<<32 + 1, high}
}

func isLessEq(a, b api.Time) bool { return a.Epoch <= b.Epoch && a.Round <= b.Round }

func isTime(t api.Time) bool {
	return t.Epoch >= 0 && t.Round >= 0 && t.Epoch <= last && t.Round <= last
}

// isAhead: is a time in advance of a frontier?
func isAhead(f []api.Time, t api.Time) bool {
	return slices.ContainsFunc(f, func(u api.Time) bool { return isLessEq(u, t) })
}

// least are those times that no other one is LessEq to, in order.
func least(l []api.Time) []api.Time {
	var out []api.Time
	for i, t := range l {
		if !slices.ContainsFunc(l, func(u api.Time) bool { return u != t && isLessEq(u, t) }) && !slices.Contains(l[:i], t) {
			out = append(out, t)
		}
	}
	slices.SortFunc(out, func(a, b api.Time) int {
		if a.Epoch != b.Epoch {
			return a.Epoch - b.Epoch
		}
		return a.Round - b.Round
	})
	return out
}

// sameVal: what tells of a value, and no more.
func sameVal(a, b api.Val) bool {
	return a.Kind == b.Kind && (a.Kind != api.KindInt || a.Int == b.Int) && (a.Kind != api.KindStr || a.Str == b.Str)
}

func sameRow(a, b api.Row) bool { return slices.EqualFunc(a, b, sameVal) }

func sameCounts(a, b []api.Count) bool {
	return slices.EqualFunc(a, b, func(x, y api.Count) bool { return x.Diff == y.Diff && sameRow(x.Row, y.Row) })
}

// brief is a thing as a text, the beginning of it.
func brief(x any) string {
	text := fmt.Sprintf("%+v", x)
	if len(text) > 600 {
		text = text[:600] + " .."
	}
	return fmt.Sprintf("%q", text)
}

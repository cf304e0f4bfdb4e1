package wire_test

import (
	"encoding/hex"
	"fmt"
	"math"
	"slices"
	"strings"

	"runnel/api"
)

const (
	low  = math.MinInt
	high = math.MaxInt
)

// many is so many of one thing.
func many[T any](count int, x T) []T { return slices.Repeat([]T{x}, count) }

// join is bytes one behind the other, in memory of their own.
func join(l ...[]byte) []byte { return slices.Concat(l...) }

// r is a row of numbers and texts.
func r(values ...any) api.Row {
	var l api.Row
	for _, v := range values {
		switch x := v.(type) {
		case int:
			l = append(l, api.Val{Kind: api.KindInt, Int: x})
		case string:
			l = append(l, api.Val{Kind: api.KindStr, Str: x})
		case api.Val:
			l = append(l, x)
		}
	}
	return l
}

func pair(epoch, round int) api.Time { return api.Time{Epoch: epoch, Round: round} }

func times(l ...api.Time) []api.Time { return l }

func up(r api.Row, epoch, round, diff int) api.Up {
	return api.Up{Row: r, Time: pair(epoch, round), Diff: diff}
}

// rising are so many times, each behind the one ahead of it.
func rising(count int) []api.Time {
	var l []api.Time
	for i := range count {
		l = append(l, pair(i, count-i))
	}
	return l
}

// The commands, with the fields that they use.
func install(b []byte) api.Cmd          { return api.Cmd{Do: 0, Sheet: b} }
func insert(node int, u api.Up) api.Cmd { return api.Cmd{Do: 1, Node: node, Up: u} }
func advance(node int, l ...api.Time) api.Cmd {
	return api.Cmd{Do: 2, Node: node, Front: l}
}
func step(node, fuel int) api.Cmd { return api.Cmd{Do: 3, Node: node, Fuel: fuel} }
func compact(node int, l ...api.Time) api.Cmd {
	return api.Cmd{Do: 4, Node: node, Front: l}
}
func peek(node int, t api.Time) api.Cmd {
	return api.Cmd{Do: 5, Node: node, Up: api.Up{Time: t}}
}
func poll(node int) api.Cmd { return api.Cmd{Do: 6, Node: node} }

// full is a command with all fields set.
func full(do int) api.Cmd {
	return api.Cmd{Do: do, Node: 7, Up: up(r(5, "a"), 8, 9, -10), Front: times(pair(11, 12), pair(13, 14)), Fuel: 15, Sheet: []byte{16, 17, 18}}
}

// each is one of each command.
func each() []api.Cmd {
	var l []api.Cmd
	for do := range 7 {
		l = append(l, full(do))
	}
	return l
}

// overfull is a command with nothing in its fields that may be.
func overfull(do int) api.Cmd {
	return api.Cmd{
		Do:    do,
		Node:  low,
		Up:    up(append(r(strings.Repeat("x", 4097), api.Val{Kind: 2}), many(16, api.Val{Kind: -1})...), low, high, low),
		Front: many(17, pair(-1, low)),
		Fuel:  low,
		Sheet: make([]byte, 65537),
	}
}

// doesThatAreNone are such as no command has.
func doesThatAreNone() []int {
	return []int{low, low + 1, -256, -7, -2, -1, 7, 8, 9, 255, 256, 257, 262, 1 << 32, 1<<32 + 3, high - 1, high}
}

// wrongRows are rows that may not be, and why.
func wrongRows() map[string]rowFault {
	long := strings.Repeat("x", 4097)
	strange := api.Val{Kind: 2}
	return map[string]rowFault{
		"17 values":                     {many(17, api.Val{}), api.ErrMany},
		"17 values, and a kind":         {many(17, strange), api.ErrMany},
		"17 values, and a text":         {r(append(many[any](16, 1), long)...), api.ErrMany},
		"very many values":              {many(5000, api.Val{}), api.ErrMany},
		"a kind above":                  {r(strange), api.ErrKind},
		"a kind below":                  {r(1, "a", api.Val{Kind: -1}), api.ErrKind},
		"the least kind":                {r(api.Val{Kind: low}), api.ErrKind},
		"the greatest kind":             {r(api.Val{Kind: high}), api.ErrKind},
		"a kind that is 0 in one byte":  {r(api.Val{Kind: 256}), api.ErrKind},
		"a long text":                   {r(long), api.ErrLong},
		"a long text at the end":        {r(append(many[any](15, "a"), long)...), api.ErrLong},
		"a long text ahead of a kind":   {r(1, long, strange), api.ErrLong},
		"a kind ahead of a long text":   {r(1, strange, long), api.ErrKind},
		"a kind, and a text it has not": {r(api.Val{Kind: 3, Str: long}), api.ErrKind},
	}
}

type rowFault struct {
	row  api.Row
	want api.Errno
}

// wrongCmds are commands that may not be told, and why.
func wrongCmds() map[string]cmdFault {
	l := map[string]cmdFault{
		"a sheet of one byte more":  {install(make([]byte, 65537)), api.ErrLong},
		"a very long sheet":         {install(make([]byte, 1<<20)), api.ErrLong},
		"17 times of an advance":    {advance(1, rising(17)...), api.ErrMany},
		"17 times of a compact":     {compact(1, rising(17)...), api.ErrMany},
		"one time 17 times":         {advance(0, many(17, pair(0, 0))...), api.ErrMany},
		"very many times":           {compact(0, make([]api.Time, 5000)...), api.ErrMany},
		"overfull: install":         {overfull(0), api.ErrLong},
		"overfull: insert":          {overfull(1), api.ErrMany},
		"overfull: advance":         {overfull(2), api.ErrMany},
		"overfull: compact":         {overfull(4), api.ErrMany},
		"overfull: no command":      {overfull(7), api.ErrKind},
		"overfull: no command, too": {overfull(-1), api.ErrKind},
	}
	for name, wrong := range wrongRows() {
		l["a row: "+name] = cmdFault{insert(3, up(wrong.row, 1, 2, 3)), wrong.want}
	}
	for _, do := range doesThatAreNone() {
		l[fmt.Sprint("no command: ", do)] = cmdFault{full(do), api.ErrKind}
	}
	return l
}

type cmdFault struct {
	cmd  api.Cmd
	want api.Errno
}

// edges are commands that just may be told.
func edges() map[string]api.Cmd {
	longRow := many(16, api.Val{Kind: api.KindStr, Str: strings.Repeat("é", 2048)})
	l := map[string]api.Cmd{
		"a sheet of no byte":            install(nil),
		"an empty sheet":                install([]byte{}),
		"a sheet of one byte":           install([]byte{0}),
		"a sheet of 127 bytes":          install(many(127, byte(0xff))),
		"a sheet of 128 bytes":          install(many(128, byte(0x80))),
		"a sheet of MaxSheet - 1":       install(many(65535, byte(1))),
		"a sheet of MaxSheet":           install(many(65536, byte(0xfe))),
		"a row of no value":             insert(1, up(nil, 1, 2, 3)),
		"an empty row":                  insert(1, up(api.Row{}, 1, 2, 3)),
		"a row of MaxCols values":       insert(1, up(r(many[any](16, -1)...), 1, 2, 3)),
		"a text of no byte":             insert(1, up(r(""), 1, 2, 3)),
		"a text of MaxText bytes":       insert(1, up(r(1, strings.Repeat("x", 4096)), 1, 2, 3)),
		"MaxCols texts of MaxText":      insert(1, up(longRow, 1, 2, 3)),
		"bytes that are no text":        insert(1, up(r("\xff\xfe\x00\x80", "\xc3"), 1, 2, 3)),
		"least and greatest of a row":   insert(1, up(r(low, high), 1, 2, 3)),
		"a change of nothing":           insert(0, up(r(1), 0, 0, 0)),
		"fields that play no part":      insert(1, up(r(api.Val{Kind: 0, Int: 3, Str: strings.Repeat("x", 5000)}, api.Val{Kind: 1, Int: low, Str: "a"}), 1, 2, 3)),
		"a front of no time":            advance(1),
		"an empty front":                {Do: 4, Front: []api.Time{}},
		"a front of one time":           compact(1, pair(1, 2)),
		"a front of MaxGiven times":     advance(1, rising(16)...),
		"MaxGiven times of a compact":   compact(1, rising(16)...),
		"times that are none":           advance(1, pair(-1, -2), pair(low, high), pair(1<<40+1, 0), pair(0, 1<<40+1)),
		"times that are not in order":   compact(1, pair(5, 5), pair(1, 2), pair(9, 0), pair(1, 1)),
		"a time 16 times":               advance(1, many(16, pair(3, 4))...),
		"a time that is none, of peek":  peek(1, pair(-3, 1<<41)),
		"a time that is none of insert": insert(1, up(r(1), -3, 1<<41, 5)),
		"fuel below 0":                  step(1, -1),
		"no fuel":                       step(1, 0),
		"a node below 0":                poll(-1),
		"a node above MaxNodes":         poll(65),
	}
	for _, c := range each() {
		l[fmt.Sprint("all fields set: ", c.Do)] = c
	}
	for _, do := range []int{3, 5, 6} {
		l[fmt.Sprint("nothing that may be in fields that are not used: ", do)] = overfull(do)
	}
	return l
}

// numbersOf are the places of all numbers that commands may use, beside those of rows.
func numbersOf(c *api.Cmd) []*int {
	l := []*int{&c.Node, &c.Fuel, &c.Up.Diff, &c.Up.Time.Epoch, &c.Up.Time.Round}
	for i := range c.Front {
		l = append(l, &c.Front[i].Epoch, &c.Front[i].Round)
	}
	return l
}

// sameVal: what tells of a value, and no more.
func sameVal(a, b api.Val) bool {
	return a.Kind == b.Kind && (a.Kind != api.KindInt || a.Int == b.Int) && (a.Kind != api.KindStr || a.Str == b.Str)
}

// same: are two commands alike, nil and empty lists too?
func same(a, b api.Cmd) bool {
	return a.Do == b.Do && a.Node == b.Node && a.Fuel == b.Fuel && a.Up.Time == b.Up.Time && a.Up.Diff == b.Up.Diff &&
		slices.Equal(a.Sheet, b.Sheet) && slices.Equal(a.Front, b.Front) && slices.EqualFunc(a.Up.Row, b.Up.Row, sameVal)
}

func sameAll(a, b []api.Cmd) bool { return slices.EqualFunc(a, b, same) }

// isZero: has it nothing in any field?
func isZero(c api.Cmd) bool { return same(c, api.Cmd{}) }

// copied is a command in memory of its own.
func copied(c api.Cmd) api.Cmd {
	c.Sheet, c.Front, c.Up.Row = slices.Clone(c.Sheet), slices.Clone(c.Front), slices.Clone(c.Up.Row)
	return c
}

// fromHex is bytes that are told by hand; what stands between them is left out.
func fromHex(s string) []byte {
	b, err := hex.DecodeString(strings.Join(strings.Fields(s), ""))
	if err != nil {
		panic(err)
	}
	return b
}

// brief is a thing as a text, the beginning of it.
func brief(x any) string { return fmt.Sprintf("%.600q", fmt.Sprintf("%+v", x)) }

// short is bytes as a text, the first and the last of them.
func short(b []byte) string {
	if len(b) <= 300 {
		return hex.EncodeToString(b)
	}
	return fmt.Sprintf("%x..%x (%d)", b[:200], b[len(b)-100:], len(b))
}

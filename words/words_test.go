package words_test

import (
	"fmt"
	"slices"
	"strings"
	"testing"

	"runnel/api"
	"runnel/plan"
	"runnel/words"
)

func TestThePage(t *testing.T) { // P30.1 to P30.3: the page's example
	p := api.Plan{Room: 5, Outs: []int{1}, Nodes: []api.Node{{Kinds: []int{api.KindInt}}, {Kind: api.NodeMap, Ins: []int{0}, Exprs: [][]api.Term{{{Op: api.OpCol}, {Op: api.OpInt, Int: 2}, {Op: api.OpMul}}}}}}
	holdBoth(t, "the page's", p, "room 5\ninput int\nmap 0 [ c0 2 mul ]\nout 1\n")
}

func TestEveryKind(t *testing.T) { // P30.1, line by line
	holdBoth(t, "every kind", everyKind(), everyKindText)
}

func TestLines(t *testing.T) { // P30.1: what each kind has, and how many; whether it may be is not asked
	for line, want := range map[string]api.Node{
		"input":                                 input(),
		"input int":                             input(num),
		"input str":                             input(text),
		"input str int str":                     input(text, num, text),
		"input" + strings.Repeat(" str", 16):    input(many(16, text)...),
		"map 0":                                 mapped(0),
		"map 0 [ 1 ]":                           mapped(0, of(number(1))),
		"map -1 [ 1 ] [ 1 2 add ]":              mapped(-1, of(number(1)), of(number(1), number(2), op(api.OpAdd))),
		"map 7" + strings.Repeat(" [ c3 ]", 16): mapped(7, many(16, of(col(3)))...),
		"map 7 [" + strings.Repeat(" neg", 64) + " ]": mapped(7, many(64, op(api.OpNeg))),
		"filter 3 [ c0 ]": filter(3, of(col(0))),
		"filter 3 [ if" + strings.Repeat(" 0", 63) + " ]": filter(3, append(of(op(api.OpIf)), many(63, number(0))...)),
		"project 0":                            project(0),
		"project 0 1":                          project(0, 1),
		"project 0 99 -1 0":                    project(0, 99, -1, 0),
		"project 0" + strings.Repeat(" 5", 16): project(0, many(16, 5)...),
		"concat 0":                             concat(0),
		"concat 3 -2 1 0 3 100 7 64":           concat(3, -2, 1, 0, 3, 100, 7, 64),
		"negate 5":                             negate(5),
		"consolidate 63":                       consolidate(63),
		"distinct 64":                          distinct(64),
		"bucket 4 1 10 5":                      bucket(4, 1, 10, 5),
		"bucket 0 0 0 0":                       bucket(0, 0, 0, 0),
		"bucket -4 -3 -2 -1":                   bucket(-4, -3, -2, -1),
		"arrange 2 1":                          keyed(api.NodeArrange, 2, 1, 0),
		"arrange 2 -1":                         keyed(api.NodeArrange, 2, -1, 0),
		"count 2 17":                           keyed(api.NodeCount, 2, 17, 0),
		"min 2 0":                              keyed(api.NodeMin, 2, 0, 0),
		"max 3 2":                              keyed(api.NodeMax, 3, 2, 0),
		"sum 4 3 2":                            keyed(api.NodeSum, 4, 3, 2),
		"top 5 4 1000":                         keyed(api.NodeTop, 5, 4, 1000),
		"top 5 4 0":                            keyed(api.NodeTop, 5, 4, 0),
		"join 5 6 7":                           joins(5, 6, 7),
	} {
		holdLine(t, line, want)
	}
}

func TestNumbers(t *testing.T) { // P30.1: each number of a text, at its edges
	for number, s := range map[int]string{
		0: "0", -1: "-1", 1: "1", 9: "9", 10: "10", -9: "-9", -10: "-10", 99: "99", 100: "100", 1000000: "1000000", 1<<40 + 7: "1099511627783",
		high: "9223372036854775807", high - 1: "9223372036854775806", low: "-9223372036854775808", low + 1: "-9223372036854775807",
	} {
		holdText(t, "room", "room "+s+"\n", api.Plan{Room: number})
		holdText(t, "out", "room 1\nout 0\nout "+s+"\n", api.Plan{Room: 1, Outs: []int{0, number}})
		holdLine(t, "map "+s+" [ "+s+" ]", mapped(number, of(api.Term{Op: api.OpInt, Int: number})))
		holdLine(t, "project "+s+" "+s, project(number, number))
		holdLine(t, "concat 1 "+s+" 1", concat(1, number, 1))
		holdLine(t, "bucket 1 "+s+" 2 3", bucket(1, number, 2, 3))
		holdLine(t, "bucket 1 2 "+s+" 3", bucket(1, 2, number, 3))
		holdLine(t, "bucket 1 2 3 "+s, bucket(1, 2, 3, number))
		holdLine(t, "join 1 "+s+" 2", joins(1, number, 2))
		holdLine(t, "join 1 2 "+s, joins(1, 2, number))
		holdLine(t, "sum 1 "+s+" 2", keyed(api.NodeSum, 1, number, 2))
		holdLine(t, "top 1 2 "+s, keyed(api.NodeTop, 1, 2, number))
		if number >= 0 {
			holdLine(t, "filter 0 [ c"+s+" ]", filter(0, of(col(number))))
		} else {
			holdPlace(t, "a column below 0", "room 1\nfilter 0 [ @c"+s+" ]\n")
		}
		if got := words.Expr(of(col(number), api.Term{Op: api.OpInt, Int: number})); got != "c"+s+" "+s {
			t.Errorf("Expr of %d: %q", number, got)
		}
		if p := roomIs(planOf(input()), number); number > 0 && number < 65537 {
			holdBoth(t, "room", p, "room "+s+"\ninput\nout 0\n")
		}
	}
}

func TestPrintedNumbers(t *testing.T) { // P30.1, P30.2: in plans that may be
	holdBoth(t, "numbers as steps", planOf(input(num), mapped(0, of(number(low)), of(number(high)), of(number(-1)), of(number(0)), of(number(10)), of(number(-10)))),
		"room 5\ninput int\nmap 0 [ -9223372036854775808 ] [ 9223372036854775807 ] [ -1 ] [ 0 ] [ 10 ] [ -10 ]\nout 1\n")
	holdBoth(t, "columns of two digits", planOf(input(many(16, num)...), mapped(0, of(col(9)), of(col(10)), of(col(15)), of(col(0))), project(0, 9, 10, 15, 0)),
		"room 5\ninput"+strings.Repeat(" int", 16)+"\nmap 0 [ c9 ] [ c10 ] [ c15 ] [ c0 ]\nproject 0 9 10 15 0\nout 2\n")
	holdBoth(t, "great windows", planOf(input(num), bucket(0, 0, 1<<40, 1<<40), bucket(0, 0, 1, 1<<40)), "room 5\ninput int\nbucket 0 0 1099511627776 1099511627776\nbucket 0 0 1 1099511627776\nout 2\n")
}

func TestCounts(t *testing.T) { // P30.1, P30.3: none of a thing, one, and as many as may be
	holdBoth(t, "no Kinds", planOf(input()), "room 5\ninput\nout 0\n")
	holdBoth(t, "16 Kinds", planOf(input(many(16, text)...)), "room 5\ninput"+strings.Repeat(" str", 16)+"\nout 0\n")
	holdBoth(t, "no Cols", planOf(input(num), project(0)), "room 5\ninput int\nproject 0\nout 1\n")
	holdBoth(t, "16 Cols", planOf(input(num), project(0, many(16, 0)...)), "room 5\ninput int\nproject 0"+strings.Repeat(" 0", 16)+"\nout 1\n")
	holdBoth(t, "1 Expr", planOf(input(num), mapped(0, of(col(0)))), "room 5\ninput int\nmap 0 [ c0 ]\nout 1\n")
	holdBoth(t, "16 Exprs", planOf(input(num), mapped(0, many(16, of(col(0)))...)), "room 5\ninput int\nmap 0"+strings.Repeat(" [ c0 ]", 16)+"\nout 1\n")
	holdBoth(t, "concat of 1", planOf(input(num), concat(0)), "room 5\ninput int\nconcat 0\nout 1\n")
	holdBoth(t, "concat of 8", planOf(input(num), concat(many(8, 0)...)), "room 5\ninput int\nconcat 0 0 0 0 0 0 0 0\nout 1\n")
	holdBoth(t, "64 steps", planOf(input(num), filter(0, append(of(col(0)), many(63, op(api.OpNeg))...))), "room 5\ninput int\nfilter 0 [ c0"+strings.Repeat(" neg", 63)+" ]\nout 1\n")
	holdBoth(t, "64 steps, 16 times", planOf(input(num), mapped(0, many(16, append(of(number(-5)), many(63, op(api.OpNot))...))...)),
		"room 5\ninput int\nmap 0"+strings.Repeat(" [ -5"+strings.Repeat(" not", 63)+" ]", 16)+"\nout 1\n")
	holdBoth(t, "64 nodes", planOf(many(64, input(num))...), "room 5\n"+strings.Repeat("input int\n", 64)+"out 63\n")
	holdBoth(t, "8 outs", outsAre(planOf(input(num), negate(0)), 1, 0, 1, 1, 0, 0, 0, 1), "room 5\ninput int\nnegate 0\nout 1\nout 0\nout 1\nout 1\nout 0\nout 0\nout 0\nout 1\n")
	holdBoth(t, "64 nodes, the first one fed by the last one", outsAre(planOf(append([]api.Node{concat(63, 62)}, many(63, input(text))...)...), 0, 63), "room 5\nconcat 63 62\n"+strings.Repeat("input str\n", 63)+"out 0\nout 63\n")
}

func TestEachStep(t *testing.T) { // P30.2: each step's word, by itself and in a plan
	all := []string{"c7", "8", "'x", "add", "sub", "mul", "div", "mod", "neg", "eq", "less", "not", "and", "or", "if", "len", "cat", "min", "max"}
	if len(all) != api.Ops {
		t.Fatal("not each step is there")
	}
	for step, word := range all {
		term := api.Term{Op: step}
		switch step {
		case api.OpCol:
			term.Int = 7
		case api.OpInt:
			term.Int = 8
		case api.OpStr:
			term.Str = "x"
		}
		if got := words.Expr(of(term)); got != word {
			t.Errorf("Expr of %d = %q, want %q", step, got, word)
		}
		holdLine(t, "map 1 [ "+word+" ]", mapped(1, of(term)))
		holdLine(t, "filter 1 [ 1 "+word+" "+word+" ]", filter(1, of(number(1), term, term)))
	}
	holdBoth(t, "steps on numbers", planOf(input(num, num), mapped(0,
		of(col(0), col(1), op(api.OpAdd)), of(col(0), col(1), op(api.OpSub)), of(col(0), col(1), op(api.OpMul)), of(col(0), col(1), op(api.OpDiv)), of(col(0), col(1), op(api.OpMod)), of(col(0), op(api.OpNeg)),
		of(col(0), col(1), op(api.OpEq)), of(col(0), col(1), op(api.OpLess)), of(col(0), op(api.OpNot)), of(col(0), col(1), op(api.OpAnd)), of(col(0), col(1), op(api.OpOr)), of(col(0), col(1), number(-3), op(api.OpIf)),
		of(col(0), col(1), op(api.OpMin)), of(col(0), col(1), op(api.OpMax)))),
		"room 5\ninput int int\nmap 0 [ c0 c1 add ] [ c0 c1 sub ] [ c0 c1 mul ] [ c0 c1 div ] [ c0 c1 mod ] [ c0 neg ] [ c0 c1 eq ] [ c0 c1 less ] [ c0 not ] [ c0 c1 and ] [ c0 c1 or ] [ c0 c1 -3 if ] [ c0 c1 min ] [ c0 c1 max ]\nout 1\n")
	holdBoth(t, "steps on texts", planOf(input(text), mapped(0, of(col(0), op(api.OpLen)), of(col(0), quoted(""), op(api.OpCat)), of(quoted("c0"), quoted("]"), op(api.OpMin)), of(quoted("-1"), quoted("'"), op(api.OpMax)))),
		"room 5\ninput str\nmap 0 [ c0 len ] [ c0 ' cat ] [ 'c0 '] min ] [ '-1 '' max ]\nout 1\n")
}

func TestExpr(t *testing.T) { // P30.2: any steps
	for want, l := range map[string][]api.Term{
		"":                                  nil,
		"?":                                 of(op(19)),
		"? ? ? ?":                           of(op(-1), op(low), op(high), op(77)),
		"c3 max ?":                          of(col(3), op(api.OpMax), op(77)),
		"'? ? c0":                           of(quoted("?"), op(20), col(0)),
		"c-1 -1":                            of(col(-1), number(-1)),
		"' '%20 'c0 cat":                    of(quoted(""), quoted(" "), quoted("c0"), op(api.OpCat)),
		"add add 0 if":                      of(op(api.OpAdd), op(api.OpAdd), number(0), op(api.OpIf)),
		"0 c0 ' add ?":                      of(api.Term{Op: 1, Str: "beside"}, api.Term{Op: 0, Str: "beside"}, api.Term{Op: 2, Int: 99}, api.Term{Op: 3, Int: 98, Str: "beside"}, api.Term{Op: -7, Int: 1, Str: "x"}),
		"'" + longText(5000):                of(quoted(longText(5000))),
		strings.Repeat("neg ", 999) + "neg": many(1000, op(api.OpNeg)),
	} {
		if got := words.Expr(l); got != want || got != askedExpr(l) {
			t.Errorf("Expr(%s) = %s, want %s", brief(l), brief(got), brief(want))
		}
	}
	if got := words.Expr([]api.Term{}); got != "" {
		t.Errorf("Expr of no step = %q", got)
	}
}

// longText is a text of so many bytes that stand as they are.
func longText(size int) string { return strings.Repeat("abcde'[]c0?", size/11+1)[:size] }

func TestQuote(t *testing.T) { // P30.2: by hand
	for s, want := range map[string]string{
		"": "'", "a": "'a", "a b%": "'a%20b%25", "'": "''", "\x00'~": "'%00'~", "\n\t\r": "'%0a%09%0d", "%": "'%25", "%25": "'%2525", "\x7f\x80\xff": "'%7f%80%ff", "!\"#$&": "'!\"#$&",
		"é": "'%c3%a9", "[ ]": "'[%20]", "\x1f !": "'%1f%20!", "\xab\xcd\xef": "'%ab%cd%ef", "}~\x7f": "'}~%7f",
	} {
		if got := words.Quote(s); got != want {
			t.Errorf("Quote(%q) = %q, want %q", s, got, want)
		}
	}
}

func TestQuoteOfEachByte(t *testing.T) { // P30.2: alone, and in texts of many
	all := ""
	for c := range 256 {
		s := string([]byte{byte(c)})
		want := fmt.Sprintf("'%%%02x", c)
		if c >= 33 && c <= 126 && c != '%' {
			want = "'" + s
		}
		all += s
		for _, l := range [][2]string{{s, want}, {"a" + s + "%" + s, "'a" + want[1:] + "%25" + want[1:]}, {strings.Repeat(s, 4096), "'" + strings.Repeat(want[1:], 4096)}} {
			if got := words.Quote(l[0]); got != l[1] {
				t.Errorf("Quote(%s) = %s, want %s", brief(l[0]), brief(got), brief(l[1]))
			}
			holdLine(t, "map 0 [ "+l[1]+" ]", mapped(0, of(quoted(l[0]))))
			holdBoth(t, "a byte in a text", planOf(input(), mapped(0, of(quoted(l[0])))), "room 5\ninput\nmap 0 [ "+l[1]+" ]\nout 1\n")
		}
	}
	if got := words.Quote(all + all); got != askedQuote(all+all) || len(got) != 1+2*(93+163*3) {
		t.Errorf("Quote of all bytes = %q", got)
	}
}

func TestLongTexts(t *testing.T) { // P30.3: quoted texts of MaxText bytes, and of one more
	for _, s := range []string{strings.Repeat("a", 4096), strings.Repeat("%", 4096), strings.Repeat("\x00z", 2048), longText(4096)} {
		holdBoth(t, "a long text", planOf(input(), mapped(0, of(quoted(s)))), "room 5\ninput\nmap 0 [ "+askedQuote(s)+" ]\nout 1\n")
		holdPlace(t, "a text too long", "room 5\nmap 0 [ @"+askedQuote(s+"b")+" ]\n")
		holdPlace(t, "a text too long", "room 5\nmap 0 [ 1 @"+askedQuote("\n"+s)+" ]\n")
	}
}

func TestTextsWhosePlansMayNotBe(t *testing.T) { // P30.3: whether it may be is not asked
	for s, want := range map[string]api.Plan{
		"room 0\n":                                      {},
		"room 5\n":                                      {Room: 5},
		"room -7\ninput int\n":                          {Room: -7, Nodes: []api.Node{input(num)}},
		"room 5\nout 0\n":                               {Room: 5, Outs: []int{0}},
		"room 70000\nout -1\nout 99\n":                  {Room: 70000, Outs: []int{-1, 99}},
		"room 5\nnegate 0\nout 0\n":                     {Room: 5, Nodes: []api.Node{negate(0)}, Outs: []int{0}},
		"room 5\ncount 9 99\nout 0\n":                   {Room: 5, Nodes: []api.Node{keyed(api.NodeCount, 9, 99, 0)}, Outs: []int{0}},
		"room 5\ninput\nmap 0\nout 1\n":                 {Room: 5, Nodes: []api.Node{input(), mapped(0)}, Outs: []int{1}},
		"room 5\ninput\nmap 0 [ add ]\nout 1\n":         {Room: 5, Nodes: []api.Node{input(), mapped(0, of(op(api.OpAdd)))}, Outs: []int{1}},
		"room 5\ninput\nfilter 0 [ c5 'x ]\nout 1\n":    {Room: 5, Nodes: []api.Node{input(), filter(0, of(col(5), quoted("x")))}, Outs: []int{1}},
		"room 5\ninput\nbucket 0 3 -1 0\nout 1\n":       {Room: 5, Nodes: []api.Node{input(), bucket(0, 3, -1, 0)}, Outs: []int{1}},
		"room 5\nproject 1 2\nproject 0 3\nout 1\n":     {Room: 5, Nodes: []api.Node{project(1, 2), project(0, 3)}, Outs: []int{1}},
		"room 5\n" + strings.Repeat("join 1 2 3\n", 64): {Room: 5, Nodes: many(64, joins(1, 2, 3))},
	} {
		holdText(t, "a plan that may not be", s, want)
		if e, _ := plan.Check(want); e == api.OK {
			t.Errorf("%s: the plan may be", s)
		}
	}
}

// filled is the plan with each field that its text does not tell set to something, as far as it may be a plan then.
func filled(p api.Plan) api.Plan {
	p = clone(p)
	for i := range p.Nodes {
		n := &p.Nodes[i]
		told := fieldsOf(n.Kind)
		is := func(field string) bool { return slices.Contains(told, field) }
		if !is("Kinds") {
			n.Kinds = many(20, 7)
		}
		if !is("Exprs") {
			n.Exprs = [][]api.Term{nil, many(70, op(-1)), of(quoted(strings.Repeat("x", 5000)))}
		}
		if !is("Cols") {
			n.Cols = many(30, -5)
		}
		for field, place := range map[string]*int{"Key": &n.Key, "N": &n.N, "Size": &n.Size, "Slide": &n.Slide} {
			if !is(field) {
				*place = -3
			}
		}
		if is("Exprs") {
			for _, l := range n.Exprs {
				for j := range l {
					fillStep(&l[j])
				}
			}
		}
	}
	return p
}

// fillStep sets the fields of a step that play no part.
func fillStep(step *api.Term) {
	if step.Op != api.OpCol && step.Op != api.OpInt {
		step.Int = -9
	}
	if step.Op != api.OpStr {
		step.Str = strings.Repeat("beside ", 1000)
	}
}

func TestFieldsThatAreNotTold(t *testing.T) { // P30.3: they play no part in Print, and are zero in what Parse tells
	p := filled(everyKind())
	if e, at := plan.Check(p); e != api.OK {
		t.Fatalf("%d at %d", int(e), at)
	}
	b, e := words.Print(p)
	if e != api.OK || string(b) != everyKindText {
		t.Errorf("Print = %s, %d", brief(b), int(e))
	}
	holdText(t, "every kind", string(b), everyKind())
	if alike(p, everyKind()) || !alike(askedTold(p), everyKind()) {
		t.Error("nothing is filled, or too much")
	}
}

// sized is a plan that may be, whose text has just so many bytes.
func sized(size int) api.Plan {
	empty, full := many(16, of(quoted(""))), many(16, of(quoted(strings.Repeat(" ", 4096))))
	line := func(exprs [][]api.Term) int {
		return len(askedText(planOf(mapped(0, exprs...)))) - len(askedText(outsAre(planOf(), 0)))
	}
	p := outsAre(planOf(input(num, text)), 0)
	left := size - len(askedText(p)) - 2*line(empty)
	for ; left >= line(full); left -= line(full) {
		p.Nodes = append(p.Nodes, mapped(0, full...))
	}
	for range 2 {
		var exprs [][]api.Term
		for range 16 {
			spaces := min(left/3, 4096)
			plain := min(left-3*spaces, 4096-spaces)
			left -= 3*spaces + plain
			exprs = append(exprs, of(quoted(strings.Repeat(" ", spaces)+strings.Repeat("x", plain))))
		}
		p.Nodes = append(p.Nodes, mapped(0, exprs...))
	}
	return p
}

func TestSizes(t *testing.T) { // P30.3: texts of just 1048576 bytes, and of one more, or less
	for _, size := range []int{maxBytes - 1, maxBytes} {
		p := sized(size)
		s := askedText(p)
		if len(s) != size || len(p.Nodes) > 64 {
			t.Fatalf("%d bytes, %d nodes", len(s), len(p.Nodes))
		}
		holdBoth(t, "a long text", p, s)
	}
	for _, size := range []int{maxBytes + 1, maxBytes + 2, maxBytes + 100, maxBytes + 70000} {
		p := sized(size)
		s := askedText(p)
		if e, _ := plan.Check(p); e != api.OK || len(s) != size {
			t.Fatalf("%d bytes, %d", len(s), int(e))
		}
		holdRefused(t, "too long", p, api.ErrLong)
		holdTooLong(t, s)
	}
}

// holdTooLong holds bytes of which there are too many.
func holdTooLong(t *testing.T, s string) {
	t.Helper()
	if p, e, at := words.Parse([]byte(s)); e != api.ErrLong || at != 0 || !alike(p, api.Plan{}) {
		t.Errorf("Parse of %d bytes, %s = %s, %d at %d", len(s), brief(s), brief(p), int(e), at)
	}
}

func TestTheGreatestPlans(t *testing.T) { // P30.3: of a plan whose text would have very many bytes
	s := strings.Repeat("%", 4096)
	l := of(quoted(s))
	for len(l) < 63 {
		l = append(l, quoted(s), op(api.OpCat))
	}
	p := planOf(append([]api.Node{input(num)}, many(63, mapped(0, many(16, l)...))...)...)
	if e, at := plan.Check(p); e != api.OK {
		t.Fatalf("%d at %d", int(e), at)
	}
	holdRefused(t, "as long as may be", p, api.ErrLong)
	short := planOf(append([]api.Node{input(num)}, many(63, mapped(0, many(16, append(of(col(0)), many(63, op(api.OpNeg))...))...))...)...)
	s = askedText(short)
	if len(s) < 200000 {
		t.Fatalf("%d bytes", len(s))
	}
	holdBoth(t, "as many words as may be", short, s)
}

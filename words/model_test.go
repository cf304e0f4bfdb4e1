package words_test

import (
	"fmt"
	"math/big"
	"reflect"
	"regexp"
	"strconv"
	"strings"
	"testing"

	"runnel/api"
	"runnel/words"
)

// The chapter's words once more, reckoned in another way than the program does: a word is a letter of its sort, a line is a text of such letters that an expression matches whole,
// and a word may stand where it does if something can be written behind it so that the line is one.

const (
	kindWords = "input map filter project concat negate consolidate bucket arrange distinct count sum min max top join"
	stepWords = "add sub mul div mod neg eq less not and or if len cat min max"
)

// askedQuote is Quote by a table of all bytes.
func askedQuote(s string) string {
	var w strings.Builder
	w.WriteString("'")
	for i := range len(s) {
		if c := s[i]; strings.IndexByte("!\"#$&'()*+,-./0123456789:;<=>?@ABCDEFGHIJKLMNOPQRSTUVWXYZ[\\]^_`abcdefghijklmnopqrstuvwxyz{|}~", c) >= 0 {
			w.WriteByte(c)
		} else {
			fmt.Fprintf(&w, "%%%02x", c)
		}
	}
	return w.String()
}

// askedExpr is Expr.
func askedExpr(l []api.Term) string {
	var all []string
	for _, step := range l {
		switch {
		case step.Op == 0:
			all = append(all, fmt.Sprintf("c%d", step.Int))
		case step.Op == 1:
			all = append(all, fmt.Sprint(step.Int))
		case step.Op == 2:
			all = append(all, askedQuote(step.Str))
		case step.Op < 0 || step.Op > 18:
			all = append(all, "?")
		default:
			all = append(all, strings.Fields(stepWords)[step.Op-3])
		}
	}
	return strings.Join(all, " ")
}

// fieldsOf are the fields that a kind tells behind its Ins, in their order.
func fieldsOf(kind int) []string {
	return strings.Fields(map[string]string{
		"input": "Kinds", "map": "Exprs", "filter": "Exprs", "project": "Cols", "bucket": "N Size Slide",
		"arrange": "Key", "count": "Key", "min": "Key", "max": "Key", "join": "Key", "sum": "Key N", "top": "Key N",
	}[strings.Fields(kindWords)[kind]])
}

// askedText is a plan's text, whatever its length; whether the plan may be is not asked.
func askedText(p api.Plan) string {
	var s strings.Builder
	fmt.Fprintf(&s, "room %d\n", p.Room)
	for _, n := range p.Nodes {
		s.WriteString(strings.Fields(kindWords)[n.Kind])
		for _, in := range n.Ins {
			fmt.Fprintf(&s, " %d", in)
		}
		for _, field := range fieldsOf(n.Kind) {
			switch x := reflect.ValueOf(n).FieldByName(field).Interface().(type) {
			case int:
				fmt.Fprintf(&s, " %d", x)
			case [][]api.Term:
				for _, l := range x {
					fmt.Fprintf(&s, " [ %s ]", askedExpr(l))
				}
			case []int:
				for _, number := range x {
					one := fmt.Sprint(number)
					if field == "Kinds" {
						one = []string{"int", "str"}[number]
					}
					s.WriteString(" " + one)
				}
			}
		}
		s.WriteString("\n")
	}
	for _, out := range p.Outs {
		fmt.Fprintf(&s, "out %d\n", out)
	}
	return s.String()
}

// askedTold is the plan without what its text does not tell.
func askedTold(p api.Plan) api.Plan {
	told := api.Plan{Room: p.Room, Outs: p.Outs}
	for _, n := range p.Nodes {
		one := api.Node{Kind: n.Kind, Ins: n.Ins}
		for _, field := range fieldsOf(n.Kind) {
			reflect.ValueOf(&one).Elem().FieldByName(field).Set(reflect.ValueOf(n).FieldByName(field))
		}
		var exprs [][]api.Term
		for _, l := range one.Exprs {
			var steps []api.Term
			for _, step := range l {
				switch step.Op {
				case 0, 1:
					step.Str = ""
				case 2:
					step.Int = 0
				default:
					step.Int, step.Str = 0, ""
				}
				steps = append(steps, step)
			}
			exprs = append(exprs, steps)
		}
		one.Exprs = exprs
		told.Nodes = append(told.Nodes, one)
	}
	return clone(told)
}

var (
	numberWord = regexp.MustCompile(`^(0|-?[1-9][0-9]*)$`)
	columnWord = regexp.MustCompile(`^c(0|[1-9][0-9]*)$`)
	quotedWord = regexp.MustCompile(`^'([!-$&-~]|%([01][0-9a-f]|20|25|7f|[89a-f][0-9a-f]))*$`)
	quotedByte = regexp.MustCompile(`%..`)
)

// isInt: is it from -2^63 to 2^63 - 1?
func isInt(digits string) bool {
	n, ok := new(big.Int).SetString(digits, 10)
	return ok && n.IsInt64()
}

// letterOf is the sort of a word that does not begin a line: "n", a number; "s", another step; "k", a kind; the bracket that it is; "?", none.
func letterOf(word string) string {
	switch {
	case numberWord.MatchString(word) && isInt(word):
		return "n"
	case columnWord.MatchString(word) && isInt(word[1:]):
		return "s"
	case quotedWord.MatchString(word) && len(quotedByte.ReplaceAllString(word, "x"))-1 <= 4096:
		return "s"
	case word == "int" || word == "str":
		return "k"
	case word == "[" || word == "]":
		return word
	}
	for _, step := range strings.Fields(stepWords) {
		if step == word {
			return "s"
		}
	}
	return "?"
}

// shapes are the letters behind the first word of a line. How many steps and expressions there may be is asked beside it, for no expression of this kind counts so far.
var shapes = func() map[string]*regexp.Regexp {
	l := map[string]*regexp.Regexp{}
	for name, shape := range map[string]string{
		"room": "n", "out": "n", "input": "k{0,16}", "map": `n(\[[ns]+\])*`, "filter": `n\[[ns]+\]`, "project": "nn{0,16}", "bucket": "nnnn",
		"arrange": "nn", "count": "nn", "min": "nn", "max": "nn", "join": "nnn", "sum": "nnn", "top": "nnn",
		"concat": "n{1,8}", "negate": "n", "consolidate": "n", "distinct": "n",
	} {
		l[name] = regexp.MustCompile("^" + shape + "$")
	}
	return l
}()

var tooManySteps = regexp.MustCompile(`[ns]{65}`)

// isLine: are these letters, behind that word, a line?
func isLine(first, letters string) bool {
	shape := shapes[first]
	return shape != nil && shape.MatchString(letters) && strings.Count(letters, "[") <= 16 && !tooManySteps.MatchString(letters)
}

// mayGoOn: can something be written behind these letters so that there is a line?
func mayGoOn(first, letters string) bool {
	for _, more := range []string{"", "n", "nn", "nnn", "nnnn", "[n]", "n[n]", "n]", "]"} {
		if isLine(first, letters+more) {
			return true
		}
	}
	return false
}

// mayBegin: may a line begin with that word, behind so many lines of each sort?
func mayBegin(word string, rooms, nodes, outs int) bool {
	switch word {
	case "room":
		return rooms == 0
	case "out":
		return rooms == 1 && outs < 8
	}
	return rooms == 1 && outs == 0 && nodes < 64 && shapes[word] != nil
}

// askedFault is where a text is none, and false; or its length, and true.
func askedFault(s string) (at int, ok bool) {
	rooms, nodes, outs := 0, 0, 0
	for at < len(s) || rooms == 0 {
		line, _, ended := strings.Cut(s[at:], "\n")
		all, letters, place := strings.Split(line, " "), "", at
		if !mayBegin(all[0], rooms, nodes, outs) {
			return at, false
		}
		for i, word := range all {
			if i > 0 {
				letters += letterOf(word)
				if !mayGoOn(all[0], letters) {
					return place, false
				}
			}
			place += len(word) + 1
		}
		at += len(line)
		if !ended || !isLine(all[0], letters) {
			return at, false
		}
		at++
		switch all[0] {
		case "room":
			rooms++
		case "out":
			outs++
		default:
			nodes++
		}
	}
	return at, true
}

// indexOf is where a word stands in a list of them.
func indexOf(list, word string) int {
	for i, x := range strings.Fields(list) {
		if x == word {
			return i
		}
	}
	return -1
}

func askedNumber(word string) int {
	n, _ := strconv.ParseInt(word, 10, 64)
	return int(n)
}

// askedStep is the step of a word that is one.
func askedStep(word string) api.Term {
	switch {
	case indexOf(stepWords, word) >= 0:
		return op(3 + indexOf(stepWords, word))
	case word[0] == '\'':
		return quoted(quotedByte.ReplaceAllStringFunc(word[1:], func(s string) string {
			n, _ := strconv.ParseUint(s[1:], 16, 8)
			return string([]byte{byte(n)})
		}))
	case word[0] == 'c':
		return col(askedNumber(word[1:]))
	}
	return number(askedNumber(word))
}

// askedNode is the node of a line.
func askedNode(line string) api.Node {
	all := strings.Split(line, " ")
	n := api.Node{Kind: indexOf(kindWords, all[0])}
	rest := all[1:]
	ins := 1
	switch all[0] {
	case "input":
		ins = 0
	case "join":
		ins = 2
	case "concat":
		ins = len(rest)
	}
	for _, word := range rest[:ins] {
		n.Ins = append(n.Ins, askedNumber(word))
	}
	rest = rest[ins:]
	switch all[0] {
	case "input":
		for _, word := range rest {
			n.Kinds = append(n.Kinds, indexOf("int str", word))
		}
	case "map", "filter":
		for _, word := range rest {
			last := len(n.Exprs) - 1
			switch word {
			case "[":
				n.Exprs = append(n.Exprs, nil)
			case "]":
			default:
				n.Exprs[last] = append(n.Exprs[last], askedStep(word))
			}
		}
	case "project":
		for _, word := range rest {
			n.Cols = append(n.Cols, askedNumber(word))
		}
	default:
		for i, field := range fieldsOf(n.Kind) {
			reflect.ValueOf(&n).Elem().FieldByName(field).SetInt(int64(askedNumber(rest[i])))
		}
	}
	return n
}

// askedPlan is the plan of a text that is one.
func askedPlan(s string) api.Plan {
	var p api.Plan
	for line := range strings.Lines(s) {
		line = strings.TrimSuffix(line, "\n")
		first, rest, _ := strings.Cut(line, " ")
		switch first {
		case "room":
			p.Room = askedNumber(rest)
		case "out":
			p.Outs = append(p.Outs, askedNumber(rest))
		default:
			p.Nodes = append(p.Nodes, askedNode(line))
		}
	}
	return p
}

// holdAsked holds any text of no more than may be against what the chapter says of it.
func holdAsked(t *testing.T, name, s string) {
	t.Helper()
	at, ok := askedFault(s)
	if ok {
		holdText(t, name, s, askedPlan(s))
	} else {
		holdFault(t, name, s, at)
	}
}

// holdPrinted holds what comes of a text if it tells a plan that may be: it is printed as the same text.
func holdPrinted(t *testing.T, name, s string, p api.Plan) {
	t.Helper()
	if b, e := words.Print(p); e != api.OK || string(b) != s {
		t.Fatalf("%s: of %s is printed %s, %d", name, brief([]byte(s)), brief(b), int(e))
	}
}

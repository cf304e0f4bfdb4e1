package words_test

import (
	"fmt"
	"strings"
	"testing"

	"runnel/api"
	"runnel/plan"
	"runnel/words"
)

func TestDrawnPlans(t *testing.T) { // P30.1, P30.4: printed, parsed, and printed again
	seen := map[string]int{}
	for seed := range 600 {
		x := newChance(seed)
		p := drawPlan(x, 1+x.below(anyOf(x, 4, 12, 64)))
		want := askedText(p)
		name := fmt.Sprint("plan ", seed)
		b, e := words.Print(p)
		if e != api.OK || string(b) != want {
			t.Fatalf("%s: Print(%s) = %s, %d, want %s", name, brief(p), brief(b), int(e), brief([]byte(want)))
		}
		q, e, at := words.Parse(b)
		if e != api.OK || at != len(b) || !alike(q, askedTold(p)) {
			t.Fatalf("%s: of %s is parsed %s, %d at %d", name, brief(b), brief(q), int(e), at)
		}
		holdPrinted(t, name, want, q)
		for _, n := range p.Nodes {
			seen[fmt.Sprint("node ", n.Kind)]++
			for _, l := range n.Exprs {
				for _, step := range l {
					seen[fmt.Sprint("step ", step.Op)]++
				}
			}
		}
	}
	if len(seen) != api.Nodes+api.Ops {
		t.Errorf("not all kinds and steps were drawn: %v", seen)
	}
}

func TestDrawnPlansThatAreFilled(t *testing.T) { // P30.4: what is printed is parsed as it was, but for fields that are not told
	for seed := range 200 {
		p := drawPlan(newChance(seed), 8)
		full := filled(p)
		if e, _ := plan.Check(full); e != api.OK {
			t.Fatalf("plan %d: %d", seed, int(e))
		}
		b, e := words.Print(full)
		q, fault, _ := words.Parse(b)
		if e != api.OK || fault != api.OK || string(b) != askedText(p) || !alike(q, askedTold(full)) || !alike(q, askedTold(p)) {
			t.Fatalf("plan %d: %s, %d; %s, %d", seed, brief(b), int(e), brief(q), int(fault))
		}
	}
}

func TestDrawnTexts(t *testing.T) { // P30.3: of plans of any numbers; whether they may be is not asked
	for seed := range 400 {
		p := drawAnyPlan(newChance(seed))
		s := askedText(p)
		holdText(t, fmt.Sprint("text ", seed), s, p)
		if e, _ := plan.Check(p); e != api.OK {
			holdRefused(t, fmt.Sprint("text ", seed), p, e)
		}
	}
}

func TestSpoiltTexts(t *testing.T) { // P30.3, P30.4: ErrForm and its place, or a plan; and no two texts are parsed as one plan
	texts := map[string]string{} // by what they tell
	right, printed := 0, 0
	for seed := range 6000 {
		x := newChance(seed)
		p := drawPlan(x, 1+x.below(6))
		if x.below(3) == 0 {
			p = drawAnyPlan(x)
		}
		s := askedText(p)
		if len(s) > 2000 {
			continue
		}
		for range 1 + x.below(3) {
			s = spoilt(x, s)
		}
		name := fmt.Sprint("text ", seed)
		holdAsked(t, name, s)
		q, e, _ := words.Parse([]byte(s))
		if e != api.OK {
			continue
		}
		right++
		key := fmt.Sprintf("%#v", withoutEmpty(q))
		if other, ok := texts[key]; ok && other != s {
			t.Errorf("%s: %s and %s tell one plan", name, brief([]byte(s)), brief([]byte(other)))
		}
		texts[key] = s
		if e, _ := plan.Check(q); e == api.OK {
			printed++
			holdPrinted(t, name, s, q)
		}
	}
	if right < 200 || printed < 50 {
		t.Errorf("only %d of the texts are some, %d of plans that may be", right, printed)
	}
}

func TestDrawnWords(t *testing.T) { // P30.3: of words that were drawn one by one
	for seed := range 4000 {
		x := newChance(seed)
		s := anyOf(x, "", "room 5\n", "room 5\n", "room 5\nmap 0 [ ")
		for range x.below(12) {
			s += drawWord(x) + anyOf(x, " ", " ", " ", "\n", "")
		}
		holdAsked(t, fmt.Sprint("words ", seed), s)
	}
}

func TestDrawnExprs(t *testing.T) { // P30.2: any steps, each with something in its other fields
	for seed := range 500 {
		x := newChance(seed)
		var l []api.Term
		for range x.below(100) {
			l = append(l, api.Term{Op: x.below(25) - 3, Int: drawNumber(x), Str: drawText(x)})
		}
		if got, want := words.Expr(l), askedExpr(l); got != want {
			t.Fatalf("Expr(%s) = %q, want %q", brief(l), got, want)
		}
		s := drawText(x) + drawText(x)
		if got, want := words.Quote(s), askedQuote(s); got != want || strings.ContainsAny(got, " \n") {
			t.Fatalf("Quote(%q) = %q, want %q", s, got, want)
		}
	}
}

func FuzzTexts(f *testing.F) { // P30.1 to P30.4: bytes as a text, and as what a plan is drawn by
	for _, s := range []string{"", "room 5\n", everyKindText, "room 5\ninput int\nmap 0 [ c0 2 mul ]\nout 1\n", "room -1\nconcat 1 2\nproject 3\nout 0", "room 5\nfilter 0 [ '%20x% ]\n", "room 5 \n\nmax 0 1\nsum 0 1 2\n"} {
		f.Add([]byte(s))
	}
	f.Fuzz(func(t *testing.T, b []byte) {
		if len(b) > 3000 {
			t.Skip("the model goes through each line many times")
		}
		holdAsked(t, "bytes", string(b))
		if p, e, _ := words.Parse(b); e == api.OK {
			if e, _ := plan.Check(p); e == api.OK {
				holdPrinted(t, "bytes", string(b), p)
			}
		}
		x := &read{b}
		p, other := drawPlan(x, 6), drawAnyPlan(x)
		if s := askedText(p); len(s) <= maxBytes {
			holdBoth(t, "a plan", askedTold(p), s)
		}
		if s := askedText(other); len(s) <= maxBytes {
			holdText(t, "any plan", s, other)
		}
		if s := spoilt(x, askedText(drawPlan(x, 3))); len(s) <= 3000 {
			holdAsked(t, "a spoilt text", s)
		}
		if got, want := words.Quote(string(b)), askedQuote(string(b)); got != want {
			t.Errorf("Quote(%q) = %q, want %q", b, got, want)
		}
	})
}

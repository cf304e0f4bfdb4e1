package whole_test

import (
	"bytes"
	"fmt"
	"math/bits"
	"testing"

	"runnel/api"
	"runnel/change"
	"runnel/journal"
	"runnel/sheet"
	"runnel/spine"
	"runnel/wire"
	"runnel/words"
)

// fewBatches holds a spine against how many batches it may have; how many changes it was given.
func fewBatches(t *testing.T, name string, s *spine.Spine) int {
	t.Helper()
	most := 2
	if n := s.Total(); n > 0 {
		most += 2 * (bits.Len(uint(n)) - 1)
	}
	if len(s.Batches()) > most {
		t.Fatalf("%s: %d batches of %d changes, more than %d", name, len(s.Batches()), s.Total(), most)
	}
	return s.Total()
}

// oneOfEach holds a spine that is still: one batch at most, and in it one change at most for each row and each time that stands for others, never 0; how many changes it has.
func oneOfEach(t *testing.T, name string, s *spine.Spine) int {
	t.Helper()
	if len(s.Batches()) > 1 {
		t.Fatalf("%s: %d batches", name, len(s.Batches()))
	}
	seen := map[string]int{}
	for _, u := range s.Ups() {
		at := fmt.Sprint(name, standsFor(s.Since(), u.Time), " ", rowName(u.Row))
		if seen[at]++; seen[at] > 1 || u.Diff == 0 {
			t.Fatalf("%s: %s is there once more, or is nothing: %+v", name, at, u)
		}
	}
	return len(s.Ups())
}

func TestFewBatches(t *testing.T) { // E5: behind each command of a script, no spine has more batches than 2 log n and 2; at rest it has one, in which nothing is twice, and nothing is 0
	longest, merged, left := 0, 0, 0
	for i := range 20 {
		x := chance(18000 + i)
		p := drawPlan(&x, 4+x.below(7))
		p.Nodes = append(p.Nodes, keyed(api.NodeArrange, 0, 0, x.below(len(p.Nodes))), keyed(api.NodeArrange, 0, 0, x.below(len(p.Nodes))))
		d := drive(fmt.Sprintf("plan %d, %s", i, brief(p)), p)
		for _, c := range append(drawScript(&x, p, 150, drawDiff), turns(p, 30)...) {
			d.do(c)
			for at := range p.Nodes {
				for _, s := range d.g.Flow().Spines(at) {
					longest = max(longest, fewBatches(t, d.name, s))
				}
			}
		}
		for !d.g.Quiet() {
			for at := range p.Nodes {
				d.do(step(at, 1+x.below(4)))
			}
		}
		for at := range p.Nodes {
			for _, s := range d.g.Flow().Spines(at) {
				many := oneOfEach(t, fmt.Sprintf("%s, node %d", d.name, at), s)
				merged, left = merged+s.Total()-many, left+many
			}
		}
	}
	if longest < 60 || merged < 400 || left < 200 {
		t.Errorf("the longest one was given %d; %d were merged away, %d are left", longest, merged, left)
	}
}

func TestManyChanges(t *testing.T) { // E5: of a long session in one arrangement, never given any fuel for merges; compacted behind it, at rest, next to nothing is left
	p := planOf(api.MaxRoom, input(ints), keyed(api.NodeArrange, 1, 0, 0))
	d := drive("many changes", p)
	x := chance(19000)
	for i := range 3000 {
		d.do(insert(0, up(r(x.below(3)), i/100, i%7, 1+x.below(2))))
		d.do(step(1, 1))
		if n := fewBatches(t, "many changes", d.g.Flow().Spines(1)[0]); n != i+1 {
			t.Fatalf("%d changes were given, want %d", n, i+1)
		}
	}
	d.do(advance(0, pair(50, 50)))
	d.do(compact(1, pair(40, 40)))
	for !d.g.Quiet() {
		d.do(step(1, 100))
	}
	if many := oneOfEach(t, "many changes", d.g.Flow().Spines(1)[0]); many != 3 {
		t.Errorf("%d changes are left, want 3", many)
	}
	if e := d.peeks(t, 1, pair(45, 45)); e != api.OK {
		t.Errorf("a peek: %d", int(e))
	}
}

// scriptBytes holds bytes against what is told as bytes in one way alone: if they are a script, it is told as them.
func scriptBytes(t *testing.T, b []byte) bool {
	t.Helper()
	l, e, at := wire.Decode(b)
	if e != api.OK {
		if len(l) > 0 || e != api.ErrForm || at < 0 || at > len(b) {
			t.Fatalf("%x: error %d at %d, and %d commands beside it", b, int(e), at, len(l))
		}
		return false
	}
	if again, e := wire.Encode(l); e != api.OK || !bytes.Equal(again, b) {
		t.Fatalf("%x: it is told as %x, error %d", b, again, int(e))
	}
	return true
}

func logBytes(t *testing.T, b []byte) bool {
	t.Helper()
	l, e, _ := change.Decode(b)
	if e != api.OK {
		return false
	}
	if again, e := change.Encode(l); e != api.OK || !bytes.Equal(again, b) {
		t.Fatalf("%x: it is told as %x, error %d", b, again, int(e))
	}
	return true
}

func planBytes(t *testing.T, b []byte) bool {
	t.Helper()
	p, e := sheet.Decode(b)
	if e != api.OK {
		return false
	}
	if again, e := sheet.Encode(p); e != api.OK || !bytes.Equal(again, b) {
		t.Fatalf("%x: it is told as %x, error %d", b, again, int(e))
	}
	return true
}

func planText(t *testing.T, b []byte) bool {
	t.Helper()
	p, e, _ := words.Parse(b)
	if e != api.OK {
		return false
	}
	if again, e := words.Print(p); e == api.OK && !bytes.Equal(again, b) {
		t.Fatalf("%q: it is printed as %q", b, again)
	}
	return true
}

// spoilt are bytes with a place in which something else stands, or that are cut, or go on.
func spoilt(x source, b []byte) []byte {
	at := x.below(len(b) + 1)
	some := []byte{byte(x.below(256))}
	switch x.below(5) {
	case 0:
		return b[:at:at]
	case 1:
		return append(b[:at:at], append(some, b[at:]...)...)
	case 2:
		return append(b[:at:at], b[min(len(b), at+1):]...)
	case 3:
		return append(b[:len(b):len(b)], some...)
	}
	return append(b[:at:at], append(some, b[min(len(b), at+1):]...)...)
}

func TestToldInOneWay(t *testing.T) { // E5: commands, logs and plans are what their bytes tell, and no other bytes tell them
	taken, not := make([]int, 4), make([]int, 4)
	ways := []func(*testing.T, []byte) bool{scriptBytes, logBytes, planBytes, planText}
	for i := range 60 {
		x, s := drawLife(t, 20000+i, 8, 30, drawDiff)
		log, e := change.Encode(s.told.Notes)
		print, f := words.Print(s.p)
		if e != api.OK || f != api.OK {
			t.Fatalf("%s: errors %d, %d", s.name, int(e), int(f))
		}
		for way, b := range [][]byte{s.bytes, log, bytesOf(s.p), print} {
			if !ways[way](t, b) {
				t.Fatalf("%s: way %d: %x is none", s.name, way, b)
			}
			for range 150 {
				if ways[way](t, spoilt(x, b)) {
					taken[way]++
				} else {
					not[way]++
				}
			}
		}
		if notes, e, _ := change.Decode(log); e != api.OK || !sameNotes(notes, s.told.Notes) {
			t.Fatalf("%s: the log is read as %s", s.name, brief(notes))
		}
		if p, e := sheet.Decode(bytesOf(s.p)); e != api.OK || !sheet.Same(p, s.p) {
			t.Fatalf("%s: the plan is read as %s", s.name, brief(p))
		}
		if p, e, _ := words.Parse(print); e != api.OK || !bytes.Equal(bytesOf(p), bytesOf(toldOf(s.p))) {
			t.Fatalf("%s: the text is read as %s", s.name, brief(p))
		}
	}
	for way := range ways {
		if taken[way] < 200 || not[way] < 300 {
			t.Errorf("way %d: %d spoilt ones were taken, %d not", way, taken[way], not[way])
		}
	}
}

// toldOf is a plan with the fields alone that its nodes' kinds use.
func toldOf(p api.Plan) api.Plan {
	var nodes []api.Node
	for _, n := range p.Nodes {
		k := api.Node{Kind: n.Kind, Ins: n.Ins}
		switch n.Kind {
		case api.NodeInput:
			k.Kinds = n.Kinds
		case api.NodeMap, api.NodeFilter:
			k.Exprs = n.Exprs
		case api.NodeProject:
			k.Cols = n.Cols
		case api.NodeBucket:
			k.N, k.Size, k.Slide = n.N, n.Size, n.Slide
		case api.NodeArrange, api.NodeCount, api.NodeMin, api.NodeMax, api.NodeJoin:
			k.Key = n.Key
		case api.NodeSum, api.NodeTop:
			k.Key, k.N = n.Key, n.N
		}
		nodes = append(nodes, k)
	}
	p.Nodes = nodes
	return p
}

func TestCommandsInOneWay(t *testing.T) { // E5: a script that is read is the one that was told, but for fields that are not used; what was kept of a session is plain
	for i := range 60 {
		x := chance(21000 + i)
		cmds := drawScript(&x, drawPlan(&x, 3+x.below(8)), 40, drawDiff)
		b, e := wire.Encode(cmds)
		l, f, _ := wire.Decode(b)
		if e != api.OK || f != api.OK || len(l) != len(cmds) {
			t.Fatalf("script %d: errors %d, %d", i, int(e), int(f))
		}
		for j, c := range cmds {
			if !sameCmd(l[j], wire.Plain(c)) || !sameCmd(wire.Plain(l[j]), l[j]) {
				t.Fatalf("script %d: %s is read as %s", i, brief(c), brief(l[j]))
			}
		}
		for _, c := range journal.Keep(cmds) {
			if !sameCmd(c, wire.Plain(c)) {
				t.Fatalf("script %d: %s is kept", i, brief(c))
			}
		}
		other := bytes.Clone(b)
		if again, e := wire.Encode(l); e != api.OK || !bytes.Equal(again, other) {
			t.Fatalf("script %d: it is told in two ways", i)
		}
	}
}

func FuzzWholes(f *testing.F) { // E1 to E5: scripts that are drawn by bytes, and the bytes as scripts, logs, plans and texts
	for i := range 10 {
		x := chance(22000 + i)
		b := make([]byte, 500+200*i)
		for j := range b {
			b[j] = byte(x.below(256))
		}
		f.Add(b)
	}
	f.Fuzz(func(t *testing.T, b []byte) {
		if scriptBytes(t, b) {
			s := liveBytes(t, "bytes", b)
			s.holds(t, grid(3)...)
		}
		logBytes(t, b)
		planBytes(t, b)
		planText(t, b)
		x := &read{b}
		p := drawPlan(x, 3+x.below(6))
		s := live(t, "drawn by bytes", drawScript(x, p, min(len(b)/8, 60), anyOf(x, drawDiff, drawDiff, drawGreat)))
		s.holds(t, grid(5)...)
		if s.has(api.ErrFailed) || s.has(api.ErrOver) {
			return
		}
		alike(t, s, live(t, "otherwise", otherwise(x, s)), grid(5)...)
		alike(t, s, live(t, "begun anew", append(journal.Keep(s.cmds), turns(p, 5)...)), grid(5)...)
		cut := beginnings(t, s.bytes)
		liveBytes(t, "cut", cut[x.below(len(cut))]).holds(t, grid(4)...)
	})
}

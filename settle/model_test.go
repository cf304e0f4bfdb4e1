package settle_test

import (
	"math/big"
	"testing"

	"runnel/api"
	"runnel/settle"
)

// cutOff is a number of any length, but no more than 2^62.
func cutOff(n *big.Int) int {
	if n.Cmp(big.NewInt(limit)) > 0 {
		return limit
	}
	return int(n.Int64())
}

// plus and by are the sum and the product of numbers, reckoned without a bound, and cut off then.
func plus(l ...int) int {
	all := new(big.Int)
	for _, n := range l {
		all.Add(all, big.NewInt(int64(n)))
	}
	return cutOff(all)
}

func by(l ...int) int {
	all := big.NewInt(1)
	for _, n := range l {
		all.Mul(all, big.NewInt(int64(n)))
	}
	return cutOff(all)
}

// reckoned is what the chapter says of sizes, node by node as they are asked for.
type reckoned struct {
	p       api.Plan
	inserts int
	known   map[int]settle.Size
}

func (k reckoned) out(at int) int { return k.of(at).Out }

func (k reckoned) of(at int) settle.Size {
	if s, is := k.known[at]; is {
		return s
	}
	n := k.p.Nodes[at]
	var outs []int
	for _, in := range n.Ins {
		outs = append(outs, k.out(in))
	}
	i := plus(outs...)
	var s settle.Size
	switch n.Kind {
	case api.NodeInput:
		s = settle.Size{Out: k.inserts}
	case api.NodeMap, api.NodeFilter, api.NodeProject, api.NodeConcat, api.NodeNegate:
		s = settle.Size{In: i, Turns: i, Out: i}
	case api.NodeBucket:
		windows := 1
		for size := n.Size; size >= n.Slide; size -= n.Slide {
			windows++
		}
		s = settle.Size{In: i, Turns: i, Out: by(i, windows)}
	case api.NodeConsolidate:
		s = settle.Size{In: i, Turns: by(2, i), Out: i}
	case api.NodeArrange:
		s = settle.Size{In: i, Turns: i, Out: i, Stored: i}
	case api.NodeJoin:
		out := by(outs[0], outs[1])
		s = settle.Size{In: i, Turns: plus(i, out), Out: out, Stored: i}
	default:
		t := by(i, plus(i, 1))
		out := by(t, plus(i, t))
		s = settle.Size{In: i, Turns: plus(i, t), Out: out, Stored: plus(i, out)}
	}
	k.known[at] = s
	return s
}

// sizesOf is what the chapter says of all nodes, boundOf of the steps.
func sizesOf(p api.Plan, inserts int) []settle.Size {
	k := reckoned{p, inserts, map[int]settle.Size{}}
	var l []settle.Size
	for at := range p.Nodes {
		l = append(l, k.of(at))
	}
	return l
}

func boundOf(p api.Plan, inserts int) int {
	sizes := sizesOf(p, inserts)
	turns := 2
	for _, s := range sizes {
		turns = plus(turns, s.Turns)
	}
	all := turns
	for _, s := range sizes {
		all = plus(all, by(64, plus(s.Stored, 1), turns))
	}
	return plus(by(len(sizes), all), len(sizes))
}

// isReckoned holds Sizes and Bound against what the chapter says.
func isReckoned(t *testing.T, name string, p api.Plan, inserts int) (sizes []settle.Size, bound int) {
	t.Helper()
	want := sizesOf(p, inserts)
	sizes, e := settle.Sizes(p, inserts)
	if e != api.OK || len(sizes) != len(want) {
		t.Fatalf("%s, %d inserts: %d sizes, error %d, want %d: %s", name, inserts, len(sizes), int(e), len(want), brief(p))
	}
	for at, s := range sizes {
		if s != want[at] {
			t.Fatalf("%s, %d inserts: node %d: %+v, want %+v: %s", name, inserts, at, s, want[at], brief(p))
		}
	}
	bound, e = settle.Bound(p, inserts)
	if e != api.OK || bound != boundOf(p, inserts) {
		t.Fatalf("%s, %d inserts: Bound %d, error %d, want %d: %s", name, inserts, bound, int(e), boundOf(p, inserts), brief(p))
	}
	return sizes, bound
}

// isRefused holds Sizes and Bound of what may not be against the error.
func isRefused(t *testing.T, name string, p api.Plan, inserts int, want api.Errno) {
	t.Helper()
	if l, e := settle.Sizes(p, inserts); len(l) != 0 || e != want {
		t.Errorf("%s, %d inserts: Sizes %v, error %d, want %d", name, inserts, l, int(e), int(want))
	}
	if n, e := settle.Bound(p, inserts); n != 0 || e != want {
		t.Errorf("%s, %d inserts: Bound %d, error %d, want %d", name, inserts, n, int(e), int(want))
	}
}

package flow

import (
	"slices"

	"runnel/api"
	"runnel/fold"
	"runnel/front"
	"runnel/hold"
	"runnel/join"
	"runnel/linear"
	"runnel/plan"
	"runnel/spine"
	"runnel/trace"
)

// part is what a node has besides its queues.
type part interface {
	// Lower: the least times of what it will hand on yet, though nothing came to it any more.
	Lower() []api.Time
}

// worker is a part with spines, on which fuel is spent.
type worker interface {
	Work(fuel int) (left int, e api.Errno)
}

// sided is a part with two spines.
type sided interface {
	Side(side int) *spine.Spine
}

// source is what an input has: changes come to it from outside, in advance of its frontier.
type source struct {
	kinds    []int
	frontier []api.Time
}

func (s *source) Lower() []api.Time { return s.frontier }

// rule is what a node has that does something with each change by itself: it keeps none.
type rule struct{ does api.Node }

func (r *rule) Lower() []api.Time { return nil }

// arrangement is a trace with one reader, by which is said from outside what is needed of it. What it stores was handed on already.
type arrangement struct {
	*trace.Trace
	reader int
}

func (a *arrangement) Lower() []api.Time { return nil }

// newArrangement: its reader needs all times.
func newArrangement(key int) (part, api.Errno) {
	t, e := trace.New(key)
	if e != api.OK {
		return nil, e
	}
	reader, e := t.Open([]api.Time{{}})
	return &arrangement{t, reader}, e
}

// newPart: of a node whose first in has so many columns.
func newPart(n api.Node, cols int) (part, api.Errno) {
	if kind, is := plan.Group(n); is {
		return fold.New(kind, n.Key, n.N, cols)
	}
	switch n.Kind {
	case api.NodeInput:
		return &source{kinds: slices.Clone(n.Kinds), frontier: []api.Time{{}}}, api.OK
	case api.NodeConsolidate:
		return hold.New(), api.OK
	case api.NodeArrange:
		return newArrangement(n.Key)
	case api.NodeJoin:
		return join.New(n.Key)
	}
	return newRule(n), api.OK
}

// newRule: what a node does is kept in lists of its own.
func newRule(n api.Node) *rule {
	does := api.Node{Kind: n.Kind, Cols: slices.Clone(n.Cols), N: n.N, Size: n.Size, Slide: n.Slide}
	for _, l := range n.Exprs {
		does.Exprs = append(does.Exprs, slices.Clone(l))
	}
	return &rule{does}
}

// node is one of a plan that runs.
type node struct {
	has   part
	ins   []int   // nodes
	lines []*line // its queues: one for each of ins
	users []*line // those to which it hands on
	isOut bool
	log   []api.Up // all that it handed on, if it is an out
}

// newNode: of a plan whose nodes' columns are of these kinds; who its users are is not known yet.
func newNode(p api.Plan, at int, kinds [][]int) (*node, api.Errno) {
	plain := p.Nodes[at]
	n := &node{ins: slices.Clone(plain.Ins), isOut: slices.Contains(p.Outs, at)}
	for range n.ins {
		l, e := newLine(p.Room)
		if e != api.OK {
			return nil, e
		}
		n.lines = append(n.lines, l)
	}
	cols := 0
	if len(n.ins) > 0 {
		cols = len(kinds[n.ins[0]])
	}
	var e api.Errno
	n.has, e = newPart(plain, cols)
	return n, e
}

// own: a change with a row that is nobody else's.
func own(u api.Up) api.Up {
	u.Row = slices.Clone(u.Row)
	return u
}

// handOn: changes go to all users, and to the outs that the node is.
func (n *node) handOn(l ...api.Up) api.Errno {
	for _, u := range l {
		for _, user := range n.users {
			if e := user.push(u); e != api.OK {
				return e
			}
		}
		if !n.isOut {
			continue
		}
		if len(n.log) == api.MaxLog {
			return api.ErrMany
		}
		n.log = append(n.log, own(u))
	}
	return api.OK
}

// lower: the times of all that is at the node and may come of it yet; they need not be the least ones.
func (n *node) lower() []api.Time {
	times := slices.Clone(n.has.Lower())
	for _, l := range n.lines {
		times = append(times, l.times.lower()...)
	}
	return times
}

// open: may it hand on?
func (n *node) open() bool {
	return !slices.ContainsFunc(n.users, func(l *line) bool { return !l.queue.Open() })
}

// comes: from where on changes are handed yet to what a node has, by one of its ins.
func (n *node) comes(in int, of frontiers) []api.Time {
	return front.Meet(of(n.ins[in]), n.lines[in].times.lower())
}

// follow: a join and a fold are advanced to what may come yet. Of more times than a frontier may have they refuse it, and stay.
func (n *node) follow(of frontiers) {
	switch has := n.has.(type) {
	case *join.Join:
		for in := range n.ins {
			has.Advance(in, n.comes(in, of))
		}
	case *fold.Fold:
		has.Advance(n.comes(0, of))
	}
}

// step: its turns, as far as the fuel goes, and its spines' work with what is left.
func (n *node) step(fuel int, of frontiers) (left int, e api.Errno) {
	for left = fuel; left > 0; left-- {
		n.follow(of)
		did, e := n.turn(of)
		if e != api.OK {
			return 0, e
		}
		if !did {
			break
		}
	}
	n.follow(of)
	return n.work(left)
}

// work: on its spines; without any the fuel is left.
func (n *node) work(fuel int) (left int, e api.Errno) {
	if has, is := n.has.(worker); is {
		return has.Work(fuel)
	}
	return fuel, api.OK
}

// turn: is one done?
func (n *node) turn(of frontiers) (did bool, e api.Errno) {
	if !n.open() {
		return false, api.OK
	}
	made, did, e := n.next(of)
	if e != api.OK {
		return false, e
	}
	return did, n.handOn(made...)
}

// next: what comes of the next turn, if there is one.
func (n *node) next(of frontiers) (made []api.Up, did bool, e api.Errno) {
	if has, is := n.has.(*join.Join); is && has.Len() > 0 {
		u, _ := has.Next()
		return []api.Up{u}, true, api.OK
	}
	for in, l := range n.lines {
		if u, some := l.pop(); some {
			made, e = n.take(in, u)
			return made, true, e
		}
	}
	return n.release(of)
}

// take: what comes at once of a change that waited in the queue of one of its ins.
func (n *node) take(in int, u api.Up) (made []api.Up, e api.Errno) {
	switch has := n.has.(type) {
	case *rule:
		return linear.Do(has.does, u)
	case *hold.Hold:
		return nil, has.Add(u)
	case *arrangement:
		made = []api.Up{u}
		return made, has.Insert(made)
	case *join.Join:
		return nil, has.Accept(in, u)
	case *fold.Fold:
		return nil, has.Accept(u)
	}
	return nil, api.OK
}

// release: what comes where no change waits any more, but the frontier of the in has gone on, if there is such.
func (n *node) release(of frontiers) (made []api.Up, did bool, e api.Errno) {
	switch has := n.has.(type) {
	case *hold.Hold:
		u, some := has.Next(of(n.ins[0]))
		if !some {
			break
		}
		return []api.Up{u}, true, api.OK
	case *fold.Fold:
		return has.Step()
	}
	return nil, false, api.OK
}

// rests: is there neither a turn nor work for it? Whether it may hand on is not asked: where it may not, something waits at one of its users, or behind it, and there is a turn.
func (n *node) rests(of frontiers) bool {
	return !n.ready(of) && !slices.ContainsFunc(n.spines(), func(s *spine.Spine) bool { return !s.Still() })
}

// ready: is there a turn, as soon as it may hand on?
func (n *node) ready(of frontiers) bool {
	if n.waiting() > 0 {
		return true
	}
	switch has := n.has.(type) {
	case *hold.Hold:
		// If any time that is held is not in advance of a frontier, one of the least ones is not.
		return !front.LessEq(of(n.ins[0]), has.Lower())
	case *fold.Fold:
		return has.Due()
	}
	return false
}

// waiting: how many changes wait, in its queues and in a join.
func (n *node) waiting() int {
	many := 0
	for _, l := range n.lines {
		many += l.queue.Len()
	}
	if has, is := n.has.(*join.Join); is {
		many += has.Len()
	}
	return many
}

// stored: how many changes are, in spines and in a hold.
func (n *node) stored() int {
	many := 0
	for _, s := range n.spines() {
		for _, b := range s.Batches() {
			many += b.Len()
		}
	}
	if has, is := n.has.(*hold.Hold); is {
		many += has.Len()
	}
	return many
}

// spines: to be read.
func (n *node) spines() []*spine.Spine {
	switch has := n.has.(type) {
	case *arrangement:
		return []*spine.Spine{has.Spine()}
	case sided:
		return []*spine.Spine{has.Side(0), has.Side(1)}
	}
	return nil
}

package flow

import (
	"math"
	"slices"

	"runnel/api"
	"runnel/moment"
	"runnel/queue"
)

// line is a queue, and beside it the times that wait there: ahead of each turn the least ones are asked for, and the queue would go through all that waits each time.
type line struct {
	queue *queue.Queue
	times tally
}

func newLine(room int) (*line, api.Errno) {
	q, e := queue.New(room)
	if e != api.OK {
		return nil, e
	}
	return &line{queue: q}, api.OK
}

// push: a change waits behind the others.
func (l *line) push(u api.Up) api.Errno {
	if e := l.queue.Push([]api.Up{u}); e != api.OK {
		return e
	}
	l.times.add(u.Time)
	return api.OK
}

// pop: the first one, which waits no more.
func (l *line) pop() (api.Up, bool) {
	u, some := l.queue.Pop()
	if some {
		l.times.drop(u.Time)
	}
	return u, some
}

// tally is times, each with how often it is there, in order.
type tally struct{ entries []entry }

type entry struct {
	time api.Time
	many int
}

// place: where a time stands, or would stand, and whether it is there.
func (y *tally) place(t api.Time) (place int, there bool) {
	return slices.BinarySearchFunc(y.entries, t, func(e entry, t api.Time) int { return moment.Order(e.time, t) })
}

// add: a time is there once more.
func (y *tally) add(t api.Time) {
	place, there := y.place(t)
	if !there {
		y.entries = slices.Insert(y.entries, place, entry{time: t})
	}
	y.entries[place].many++
}

// drop: a time is there once less. Where it goes, those ahead of it move, not those behind it, for what has waited longest is mostly near the front.
func (y *tally) drop(t api.Time) {
	place, _ := y.place(t)
	y.entries[place].many--
	if y.entries[place].many == 0 {
		copy(y.entries[1:place+1], y.entries[:place])
		y.entries = y.entries[1:]
	}
}

// lower: the times to which no other one is LessEq, in order. They are those whose round is below that of each one ahead.
func (y *tally) lower() []api.Time {
	var least []api.Time
	below := math.MaxInt
	for _, e := range y.entries {
		if e.time.Round < below {
			least = append(least, e.time)
			below = e.time.Round
		}
		if below == 0 {
			break // no round is below that
		}
	}
	return least
}

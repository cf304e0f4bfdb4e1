package fold

import (
	"iter"
	"math"
	"slices"

	"runnel/api"
	"runnel/moment"
	"runnel/row"
)

// task is a key, and a time at which something else may come of its rows than was told.
type task struct {
	time api.Time
	key  api.Row
}

// order: by the time, then by the key.
func (t task) order(u task) int {
	if order := moment.Order(t.time, u.time); order != 0 {
		return order
	}
	return row.Order(t.key, u.key)
}

// list is what is to do: each task once, in order.
type list struct{ tasks []task }

// add: a task, unless it is to do already.
func (l *list) add(t task) {
	place, there := slices.BinarySearchFunc(l.tasks, t, task.order)
	if !there {
		l.tasks = slices.Insert(l.tasks, place, t)
	}
}

// take: the task at a place, which is to do no more. Those ahead of it move, not those behind it, for what is taken stands near the front.
func (l *list) take(place int) task {
	t := l.tasks[place]
	copy(l.tasks[1:place+1], l.tasks[:place])
	l.tasks[0] = task{} // what was done is kept no more
	l.tasks = l.tasks[1:]
	return t
}

// stairs: the places and times of those tasks whose round is below that of each one ahead. To each other one a time that stands ahead of it is LessEq: so the least times are these, and the first one that is not in advance of a frontier is one of these.
func (l *list) stairs() iter.Seq2[int, api.Time] {
	return func(yield func(int, api.Time) bool) {
		below := math.MaxInt
		for place, t := range l.tasks {
			if t.time.Round >= below {
				continue
			}
			// No round is below 0: what is behind is not asked any more.
			if !yield(place, t.time) || t.time.Round == 0 {
				return
			}
			below = t.time.Round
		}
	}
}

// lower: the least times.
func (l *list) lower() []api.Time {
	var least []api.Time
	for _, t := range l.stairs() {
		least = append(least, t)
	}
	return least
}

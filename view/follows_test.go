package view_test

import (
	"slices"
	"testing"

	"runnel/api"
	"runnel/change"
	"runnel/view"
)

// closed are times of a grid that are told of an out.
func (w *watched) closed(out, most int) []api.Time {
	var l []api.Time
	for _, t := range grid(most) {
		if _, e := w.v.At(out, t); e == api.OK {
			l = append(l, t)
		}
	}
	return l
}

// together are counts of both, row by row, those that are not 0; without zset.
func together(a, b []api.Count) []api.Count {
	var l []api.Count
	for _, c := range slices.Concat(a, b) {
		i := slices.IndexFunc(l, func(d api.Count) bool { return sameRow(c.Row, d.Row) })
		if i < 0 {
			l = append(l, c)
		} else {
			l[i].Diff += c.Diff
		}
	}
	return slices.DeleteFunc(l, func(c api.Count) bool { return c.Diff == 0 })
}

// alike: have both the same rows as often, in any order? (Each row is in each list once.)
func alike(a, b []api.Count) bool {
	return len(a) == len(b) && !slices.ContainsFunc(a, func(c api.Count) bool {
		return !slices.ContainsFunc(b, func(d api.Count) bool { return c.Diff == d.Diff && sameRow(c.Row, d.Row) })
	})
}

// drawn are views of logs that are drawn, with Forget and Work between.
func drawn(t *testing.T, seed, count int, do func(*watched)) {
	x := chance(seed)
	for i := range count {
		outs := i%8 + 1
		w := begun(t, outs, drawnKeys[i/8%len(drawnKeys)])
		for _, n := range x.log(outs, w.key, 20+x.below(50)) {
			w.good(n)
			switch x.below(20) {
			case 0:
				w.forget(x.later(w.since)...)
			case 1:
				w.work(x.below(20))
			}
		}
		do(w)
	}
}

func TestToldAsTheLogTells(t *testing.T) { // P32.4: at all times in advance of what was forgotten, and as change.At tells it
	asked := 0
	drawn(t, 1, 200, func(w *watched) {
		for out := range w.outs {
			for _, when := range grid(7) {
				want, fault := change.At(w.outs, out, w.log, when)
				if fault == api.OK && !isAhead(w.since, when) {
					want, fault = nil, api.ErrCompacted
				}
				if fault == api.OK {
					asked++
				}
				w.told(out, when, want, fault)
			}
		}
	})
	if asked < 500 {
		t.Error(asked)
	}
}

func TestWhatThereIsAndWhatHasChanged(t *testing.T) { // P32.4: at s, and between s and t, is at t; whichever is ahead
	asked, changed := 0, 0
	drawn(t, 2, 120, func(w *watched) {
		for out := range w.outs {
			l := w.closed(out, 5)
			for _, s := range l {
				for _, u := range l {
					was, _ := w.v.At(out, s)
					is, _ := w.v.At(out, u)
					between, e := w.v.Between(out, s, u)
					if e != api.OK || !alike(together(was, between), is) {
						t.Fatalf("out %d: at %v %s; between it and %v %s, %d; there %s", out, s, brief(was), u, brief(between), int(e), brief(is))
					}
					asked++
					if len(between) > 0 {
						changed++
					}
				}
			}
		}
	})
	if asked < 1000 || changed < 300 {
		t.Error(asked, changed)
	}
}

func TestAllKeysAreAll(t *testing.T) { // P32.4: what Get tells of all keys, one behind the other in order, is what At tells
	asked := 0
	drawn(t, 3, 200, func(w *watched) {
		for out := range w.outs {
			keys := w.keys(out)
			slices.SortFunc(keys, orderRows)
			for _, when := range w.closed(out, 6) {
				var all []api.Count
				for _, key := range keys {
					c, e := w.v.Get(out, key, when)
					if len(key) == w.key && e != api.OK || len(key) != w.key && e != api.ErrArg {
						t.Fatalf("Get(%d, %s, %v): %d", out, brief(key), when, int(e))
					}
					all = append(all, c...)
				}
				w.told(out, when, all, api.OK)
				asked += len(all)
			}
		}
	})
	if asked < 1000 {
		t.Error(asked)
	}
}

// orderRows is the order of rows, value by value.
func orderRows(a, b api.Row) int {
	return slices.CompareFunc(a, b, func(v, u api.Val) int {
		switch {
		case sameVal(v, u):
			return 0
		case v.Kind < u.Kind, v.Kind == u.Kind && v.Kind == api.KindInt && v.Int < u.Int, v.Kind == u.Kind && v.Kind == api.KindStr && v.Str < u.Str:
			return -1
		}
		return 1
	})
}

// all is what is told of a view at many times.
type all struct {
	fronts  [][]api.Time
	there   [][]api.Count
	changed [][]api.Count
	errors  []api.Errno
}

// askAll asks all outs, those that there are not too, at these times.
func askAll(v *view.View, outs int, keys []api.Row, when []api.Time) (a all) {
	for out := -1; out <= outs; out++ {
		f, e := v.Front(out)
		a.fronts, a.errors = append(a.fronts, f), append(a.errors, e)
		for i, t := range when {
			c, e := v.At(out, t)
			a.there, a.errors = append(a.there, c), append(a.errors, e)
			for _, key := range keys {
				c, e := v.Get(out, key, t)
				a.there, a.errors = append(a.there, c), append(a.errors, e)
			}
			c, e = v.Between(out, t, when[(i+1)%len(when)])
			a.changed, a.errors = append(a.changed, c), append(a.errors, e)
		}
	}
	return a
}

// sameAll: is the same told in both, in the same order?
func sameAll(a, b all) bool {
	return slices.Equal(a.errors, b.errors) && slices.EqualFunc(a.fronts, b.fronts, slices.Equal[[]api.Time]) &&
		slices.EqualFunc(a.there, b.there, sameCounts) && slices.EqualFunc(a.changed, b.changed, sameCounts)
}

func TestForgetAndWorkChangeNothing(t *testing.T) { // P32.4: of what is told at times that are in advance of what was forgotten
	x := chance(61)
	for i := range 40 {
		outs, key := i%8+1, i%3
		w := begun(t, outs, key)
		w.good(x.log(outs, key, 60)...)
		for range 6 {
			since := x.later(w.since)
			var when []api.Time
			for _, u := range grid(7) {
				if isAhead(since, u) {
					when = append(when, u)
				}
			}
			keys := w.keys(0)
			before := askAll(w.v, outs, keys, when)
			w.forget(since...)
			if !sameAll(askAll(w.v, outs, keys, when), before) {
				t.Fatalf("behind Forget(%v) something else is told of %s", since, brief(w.log))
			}
			for _, fuel := range []int{1, 0, 3, 20, 1000} {
				if _, e := w.work(fuel); e != api.OK {
					t.Fatal(e)
				}
				if !sameAll(askAll(w.v, outs, keys, when), before) {
					t.Fatalf("behind Work(%d) something else is told of %s", fuel, brief(w.log))
				}
			}
		}
	}
}

func TestAnErrorChangesNothing(t *testing.T) { // P32.4: of two views that get the same calls, one of them such as are refused, too, the same is told
	x := chance(17)
	seen := map[api.Errno]int{}
	var wrong []api.Note
	for _, n := range wrongNotes() {
		wrong = append(wrong, n.note)
	}
	slices.SortFunc(wrong, func(a, b api.Note) int { return compare(brief(a), brief(b)) })
	for i := range 60 {
		outs, key := i%8+1, i%3
		w := begun(t, outs, key)
		other, _ := view.New(outs, key)
		for _, n := range x.log(outs, key, 60) {
			for range 3 {
				bad := wrong[x.below(len(wrong))]
				if w.fault(bad) != api.OK {
					seen[w.apply(bad)]++
				}
				if f := x.anyFront(nil); !isForward(w.since, f) {
					seen[w.forget(f...)]++
				}
				w.v.Get(x.below(9)-1, x.row(key), at(x.below(9), x.below(9)))
				w.v.Between(x.below(9)-1, at(x.below(9), x.below(9)), at(x.below(9), x.below(9)))
			}
			w.good(n)
			if e := other.Apply(n); e != api.OK {
				t.Fatal(e)
			}
			fuel := x.below(9) - 2
			a, _ := w.work(fuel)
			if b, e := other.Work(fuel); b != a || e != api.OK {
				t.Fatalf("Work(%d) leaves %d, without refused calls %d, %d", fuel, a, b, int(e))
			}
			if w.v.Len() != other.Len() {
				t.Fatalf("Len is %d, without refused calls %d", w.v.Len(), other.Len())
			}
		}
		f := x.later(w.since)
		w.forget(f...)
		other.Forget(f)
		keys := w.keys(0)
		if !sameAll(askAll(w.v, outs, keys, grid(6)), askAll(other, outs, keys, grid(6))) {
			t.Fatalf("without refused calls something else is told of %s", brief(w.log))
		}
	}
	if seen[api.ErrTime] < 100 || seen[api.ErrRange] < 100 || seen[api.ErrForm] < 100 || seen[api.ErrMany] < 50 || seen[api.ErrKind] < 20 {
		t.Error(seen)
	}
}

func compare(a, b string) int {
	switch {
	case a < b:
		return -1
	case a > b:
		return 1
	}
	return 0
}

// isForward: may f be forgotten where since is?
func isForward(since, f []api.Time) bool {
	if !slices.Equal(least(f), f) {
		return false
	}
	for _, t := range f {
		if !isTime(t) || !isAhead(since, t) {
			return false
		}
	}
	return true
}

func TestTheSameCallsOnANewView(t *testing.T) { // from arguments alone: they tell the same
	run := func(seed int) (told []all, lefts []int) {
		x := chance(seed)
		outs, key := x.below(8)+1, x.below(3)
		v, e := view.New(outs, key)
		if e != api.OK {
			t.Fatal(e)
		}
		f := begunFronts(outs)
		for i := range 80 {
			n := x.note(f, key)
			if i%7 == 3 {
				n = x.maybe(outs, key)
			}
			e := v.Apply(n)
			left, fault := v.Work(x.below(10))
			lefts = append(lefts, int(e), left, int(fault), v.Len())
			if i%20 == 19 {
				lefts = append(lefts, int(v.Forget(times(at(i/20, i/30)))))
				told = append(told, askAll(v, outs, []api.Row{nil, r(0), r(0, 0), r("")}, grid(5)))
			}
			for out := range f {
				f[out], _ = v.Front(out)
			}
		}
		return told, lefts
	}
	for seed := range 40 {
		told, lefts := run(seed)
		run(seed + 1000) // another view between them
		again, leftsAgain := run(seed)
		if !slices.Equal(lefts, leftsAgain) || !slices.EqualFunc(told, again, sameAll) {
			t.Errorf("seed %d: once this, once that", seed)
		}
	}
}

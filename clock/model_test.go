package clock_test

import (
	"maps"
	"slices"
	"testing"

	"spillway/api"
	"spillway/clock"
)

// span is a scope of a world: its parent (nil: none), what was asked for as its deadline, and why it has ended.
type span struct {
	parent   *span
	id       int64
	deadline int64
	why      int
}

// ends returns when time ends a scope: with the first one of it and those above it.
func (x *span) ends() int64 {
	if x == nil {
		return never
	}
	return min(x.deadline, x.parent.ends())
}

// under reports whether a scope is below another one.
func (x *span) under(other *span) bool {
	return x.parent != nil && (x.parent == other || x.parent.under(other))
}

// world is what a clock should be, done in the simplest way.
type world struct {
	now, next int64
	timers    map[int64]api.CkTimer
	spans     map[int64]*span
}

func newWorld(now int64) *world {
	return &world{now, 1, map[int64]api.CkTimer{}, map[int64]*span{}}
}

// state returns the world as a clock.
func (w *world) state() api.CkState {
	s := state(w.now, w.next, nil, nil)
	for at := range w.times() {
		for id := int64(1); id < w.next; id++ {
			if x, ok := w.timers[id]; ok && x.At == at {
				s.Timers = append(s.Timers, x)
			}
		}
	}
	for id := int64(1); id < w.next; id++ {
		if x, ok := w.spans[id]; ok {
			parent := int64(0)
			if x.parent != nil {
				parent = x.parent.id
			}
			s.Scopes = append(s.Scopes, scope(id, parent, x.ends(), x.why))
		}
	}
	return s
}

// times yields the different times of timers, ascending.
func (w *world) times() func(yield func(int64) bool) {
	set := map[int64]bool{}
	for _, x := range w.timers {
		set[x.At] = true
	}
	return slices.Values(slices.Sorted(maps.Keys(set)))
}

// stop ends the scopes that live and of which ends says so.
func (w *world) stop(why int, ends func(x *span) bool) []int64 {
	var ids []int64
	for _, id := range slices.Sorted(maps.Keys(w.spans)) {
		if x := w.spans[id]; x.why == api.CkLive && ends(x) {
			ids = append(ids, id)
		}
	}
	for _, id := range ids {
		w.spans[id].why = why
	}
	return ids
}

// do does a call whose numbers are in their ranges.
func (w *world) do(c call) result {
	switch c.name {
	case "after":
		w.timers[w.next] = timer(w.next, c.a, int(c.b), c.c)
		w.next++
		return result{n: w.next - 1}
	case "stop":
		x, ok := w.timers[c.a]
		if !ok {
			return result{e: api.ErrNone}
		}
		delete(w.timers, c.a)
		return result{timers: []api.CkTimer{x}}
	case "due":
		return w.due()
	case "tick":
		return w.tick(c.a)
	case "scope":
		return w.begin(c.a, c.b)
	}
	x := w.spans[c.a]
	if x == nil {
		return result{e: api.ErrNone}
	}
	return w.ask(x, c.name)
}

func (w *world) due() result {
	var l []int64
	for _, x := range w.timers {
		l = append(l, x.At)
	}
	for _, x := range w.spans {
		if x.why == api.CkLive && x.ends() <= maxTime {
			l = append(l, x.ends())
		}
	}
	if len(l) == 0 {
		return result{e: api.ErrNone}
	}
	return result{n: slices.Min(l)}
}

func (w *world) tick(to int64) result {
	if to < w.now {
		return result{e: api.ErrRange}
	}
	var r result
	for _, x := range w.state().Timers {
		if x.At <= to {
			r.timers = append(r.timers, x)
			delete(w.timers, x.Id)
		}
	}
	w.now = to
	r.ids = w.stop(api.CkDeadline, func(x *span) bool { return x.ends() <= to })
	return r
}

func (w *world) begin(parent, deadline int64) result {
	x := &span{id: w.next, deadline: deadline, parent: w.spans[parent]}
	if parent != 0 && x.parent == nil {
		return result{e: api.ErrNone}
	}
	if x.ends() <= w.now {
		x.why = api.CkDeadline
	}
	if x.parent != nil && x.parent.why != api.CkLive {
		x.why = x.parent.why
	}
	w.spans[w.next] = x
	w.next++
	return result{n: x.id}
}

// ask does a call with a scope.
func (w *world) ask(x *span, name string) result {
	var below []int64
	for _, id := range slices.Sorted(maps.Keys(w.spans)) {
		if w.spans[id].under(x) {
			below = append(below, id)
		}
	}
	switch {
	case name == "why":
		return result{n: int64(x.why)}
	case name == "below":
		return result{ids: below}
	case name == "left" && x.why != api.CkLive:
		return result{}
	case name == "left" && x.ends() == never:
		return result{n: -1}
	case name == "left":
		return result{n: x.ends() - w.now}
	case name == "cancel" && x.why == api.CkLive:
		return result{ids: w.stop(api.CkCanceled, func(y *span) bool { return y == x || y.under(x) })}
	case name == "forget" && x.why != api.CkLive && len(below) == 0:
		delete(w.spans, x.id)
		return result{}
	}
	return result{e: api.ErrDown}
}

// eachRun calls f with all runs of n of the calls.
func eachRun(calls []call, n int, f func(run []call)) {
	if n == 0 {
		f(nil)
		return
	}
	eachRun(calls, n-1, func(run []call) {
		for _, c := range calls {
			f(append(slices.Clip(run), c))
		}
	})
}

func TestAllShortRuns(t *testing.T) { // P4.2 to P4.5
	calls := []call{
		{"after", 1, 1, 1}, {"after", 3, 2, 2}, {"stop", 1, 0, 0}, {"stop", 2, 0, 0},
		{"tick", 2, 0, 0}, {"tick", 3, 0, 0}, {"scope", 0, never, 0}, {"scope", 0, 3, 0}, {"scope", 1, 4, 0}, {"scope", 2, 2, 0},
		{"cancel", 1, 0, 0}, {"cancel", 2, 0, 0}, {"forget", 1, 0, 0}, {"forget", 2, 0, 0},
	}
	last := []call{{"due", 0, 0, 0}, {"tick", 9, 0, 0}}
	for id := range int64(6) {
		for _, name := range []string{"why", "left", "below", "cancel", "forget", "stop"} {
			last = append(last, call{name, id, 0, 0})
		}
	}
	for n := range 5 {
		eachRun(calls, n, func(run []call) {
			s, w := begun(t, 2), newWorld(2)
			for _, c := range run {
				s = step(t, s, w, c)
			}
			before := w.state()
			for _, c := range last {
				if slices.Contains([]string{"tick", "cancel", "forget", "stop"}, c.name) {
					step(t, s, worldOf(before), c)
				} else {
					step(t, s, w, c)
				}
			}
		})
	}
}

// step does a call of a clock and a world, and fails if they differ. It returns the clock after it.
func step(t *testing.T, s api.CkState, w *world, c call) api.CkState {
	t.Helper()
	got, want := do(s, c), w.do(c)
	want.s = w.state()
	if !same(got, want) {
		t.Fatalf("%v of %.500v: %.500v, want %.500v", c, s, got, want)
	}
	return got.s
}

// worldOf is the world that is a clock.
func worldOf(s api.CkState) *world {
	w := newWorld(s.Now)
	w.next = s.Next
	for _, x := range s.Timers {
		w.timers[x.Id] = x
	}
	for _, x := range s.Scopes {
		w.spans[x.Id] = &span{id: x.Id, deadline: x.Deadline, why: x.Why, parent: w.spans[x.Parent]}
	}
	return w
}

// numbers returns a function that returns numbers below n that look like random ones, the same ones each time.
func numbers(seed uint64) func(n int64) int64 {
	return func(n int64) int64 {
		seed = seed*6364136223846793005 + 1442695040888963407
		return int64(seed>>33) % n
	}
}

// anyCall is a call with a clock that has some timers and scopes.
func anyCall(next func(n int64) int64, s api.CkState) call {
	if next(4) == 0 {
		return call{"after", max(0, s.Now-2) + next(20), next(1001), next(99)}
	}
	name := names[1+next(int64(len(names))-1)]
	id := next(s.Next + 2)
	if len(s.Scopes) > 0 && next(4) > 0 {
		id = s.Scopes[next(int64(len(s.Scopes)))].Id
	}
	deadline := s.Now + next(30)
	if next(4) == 0 {
		deadline = never
	}
	switch name {
	case "tick":
		return call{name, max(0, s.Now-1) + next(5), 0, 0}
	case "scope":
		return call{name, id * min(1, next(3)), deadline, 0}
	case "stop":
		if len(s.Timers) > 0 && next(4) > 0 {
			id = s.Timers[next(int64(len(s.Timers)))].Id
		}
	case "after":
		return call{name, deadline % 90, 0, 0}
	case "cancel":
		if next(3) > 0 {
			return call{"forget", id, 0, 0}
		}
	}
	return call{name, id, 0, 0}
}

func TestLongRuns(t *testing.T) { // P4.2 to P4.5, P4.9
	for seed := range uint64(8) {
		next := numbers(seed)
		s, w := begun(t, int64(seed)), newWorld(int64(seed))
		for range 800 {
			s = step(t, s, w, anyCall(next, s))
			if e := clock.Check(s); e != api.OK {
				t.Fatalf("Check(%v): %d", s, e)
			}
		}
	}
}

// random are clocks that come from long runs.
func random(t *testing.T, n int) []api.CkState {
	t.Helper()
	var l []api.CkState
	for seed := range n {
		next := numbers(uint64(seed) + 100)
		s := begun(t, next(9))
		for range 5 + next(120) {
			s = do(s, anyCall(next, s)).s
		}
		l = append(l, s)
	}
	return l
}

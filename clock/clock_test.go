package clock_test

import (
	"math"
	"slices"
	"testing"

	"spillway/api"
	"spillway/clock"
)

const (
	maxTime   = 1000000000000
	never     = maxTime + 1
	maxHandle = 1000000000000000
)

// call is a call of a function with a clock, and its other arguments in their order.
type call struct {
	name    string
	a, b, c int64
}

// result is what a call returned: the clock (that was given, if it returns none), a number, timers, numbers of scopes and the error.
type result struct {
	s      api.CkState
	n      int64
	timers []api.CkTimer
	ids    []int64
	e      api.Errno
}

// names are the functions with a clock.
var names = []string{"check", "after", "stop", "due", "tick", "scope", "cancel", "why", "left", "below", "forget"}

// do does a call. The one timer of Stop is the only one of the timers, if it is not zero.
func do(s api.CkState, c call) result {
	r := result{s: s}
	switch c.name {
	case "check":
		r.e = clock.Check(s)
	case "after":
		r.s, r.n, r.e = clock.After(s, c.a, int(c.b), c.c)
	case "stop":
		var x api.CkTimer
		if r.s, x, r.e = clock.Stop(s, c.a); x != (api.CkTimer{}) {
			r.timers = []api.CkTimer{x}
		}
	case "due":
		r.n, r.e = clock.Due(s)
	case "tick":
		r.s, r.timers, r.ids, r.e = clock.Tick(s, c.a)
	case "scope":
		r.s, r.n, r.e = clock.Scope(s, c.a, c.b)
	case "cancel":
		r.s, r.ids, r.e = clock.Cancel(s, c.a)
	case "why":
		var why int
		why, r.e = clock.Why(s, c.a)
		r.n = int64(why)
	case "left":
		r.n, r.e = clock.Left(s, c.a)
	case "below":
		r.ids, r.e = clock.Below(s, c.a)
	case "forget":
		r.s, r.e = clock.Forget(s, c.a)
	default:
		panic(c.name)
	}
	return r
}

// sameClock reports whether two clocks are the same.
func sameClock(a, b api.CkState) bool {
	return a.Now == b.Now && a.Next == b.Next && slices.Equal(a.Timers, b.Timers) && slices.Equal(a.Scopes, b.Scopes)
}

// same reports whether two results are the same.
func same(a, b result) bool {
	return sameClock(a.s, b.s) && a.n == b.n && slices.Equal(a.timers, b.timers) && slices.Equal(a.ids, b.ids) && a.e == b.e
}

// check fails if a call does not have a result, and returns the clock after it.
func check(t *testing.T, s api.CkState, c call, want result) api.CkState {
	t.Helper()
	got := do(s, c)
	if !same(got, want) {
		t.Errorf("%v: %.300v, want %.300v", c, got, want)
	}
	return got.s
}

// checkError fails if a call does not have an error, with the clock as it was and nothing else.
func checkError(t *testing.T, s api.CkState, c call, e api.Errno) {
	t.Helper()
	check(t, s, c, result{s: s, e: e})
}

// checkRun fails if calls, one after the other, do not have results. The clocks in these are not looked at.
func checkRun(t *testing.T, s api.CkState, calls []call, want []result) api.CkState {
	t.Helper()
	for i, c := range calls {
		r := do(s, c)
		w := want[i]
		w.s = r.s
		if !same(r, w) {
			t.Errorf("%v: %v, want %v", c, r, w)
		}
		s = r.s
	}
	return s
}

// state is a clock.
func state(now, next int64, timers []api.CkTimer, scopes []api.CkScope) api.CkState {
	return api.CkState{Now: now, Next: next, Timers: timers, Scopes: scopes}
}

func timer(id, at int64, kind int, owner int64) api.CkTimer {
	return api.CkTimer{Id: id, At: at, Kind: kind, Owner: owner}
}

func scope(id, parent, deadline int64, why int) api.CkScope {
	return api.CkScope{Id: id, Parent: parent, Deadline: deadline, Why: why}
}

// begun is a new clock.
func begun(t *testing.T, now int64) api.CkState {
	t.Helper()
	s, e := clock.New(now)
	if e != api.OK {
		t.Fatalf("New(%d): %d", now, e)
	}
	return s
}

// after is a clock after calls, none of which returns an error.
func after(t *testing.T, s api.CkState, calls ...call) api.CkState {
	t.Helper()
	for _, c := range calls {
		r := do(s, c)
		if r.e != api.OK {
			t.Fatalf("%v: %d", c, r.e)
		}
		s = r.s
	}
	return s
}

// beyond are numbers that are out of the range from 0 to most.
func beyond(most int64) []int64 {
	return []int64{-1, most + 1, math.MinInt64, math.MaxInt64, -most, -1 << 32}
}

func TestExamples(t *testing.T) { // P4.1 to P4.5: the examples of the chapter
	one, two, three, four := timer(1, 20, 1, 0), timer(2, 10, 2, 0), timer(3, 20, 3, 0), timer(4, 3, 4, 0)
	checkRun(t, begun(t, 5), []call{
		{"after", 20, 1, 0}, {"after", 10, 2, 0}, {"after", 20, 3, 0}, {"after", 3, 4, 0},
		{"due", 0, 0, 0}, {"tick", 5, 0, 0},
		{"scope", 0, 15, 0}, {"scope", 5, never, 0}, {"scope", 5, 8, 0}, {"left", 6, 0, 0},
		{"tick", 14, 0, 0},
		{"cancel", 5, 0, 0}, {"why", 6, 0, 0}, {"why", 7, 0, 0}, {"cancel", 6, 0, 0},
		{"forget", 5, 0, 0}, {"forget", 6, 0, 0}, {"tick", 25, 0, 0}, {"tick", 24, 0, 0},
	}, []result{
		{n: 1}, {n: 2}, {n: 3}, {n: 4},
		{n: 3}, {timers: []api.CkTimer{four}},
		{n: 5}, {n: 6}, {n: 7}, {n: 10},
		{timers: []api.CkTimer{two}, ids: []int64{7}},
		{ids: []int64{5, 6}}, {n: api.CkCanceled}, {n: api.CkDeadline}, {e: api.ErrDown},
		{e: api.ErrDown}, {}, {timers: []api.CkTimer{one, three}}, {e: api.ErrRange},
	})
}

func TestNew(t *testing.T) { // P4.1
	for _, now := range []int64{0, 1, 5, maxTime - 1, maxTime} {
		if s, e := clock.New(now); !sameClock(s, state(now, 1, nil, nil)) || e != api.OK {
			t.Errorf("New(%d): %v, %d", now, s, e)
		}
	}
	for _, now := range beyond(maxTime) {
		if s, e := clock.New(now); !sameClock(s, api.CkState{}) || e != api.ErrRange {
			t.Errorf("New(%d): %v, %d", now, s, e)
		}
	}
}

func TestAfter(t *testing.T) { // P4.2
	s := begun(t, 5)
	s = check(t, s, call{"after", 20, 1, 7}, result{n: 1, s: state(5, 2, []api.CkTimer{timer(1, 20, 1, 7)}, nil)})
	s = check(t, s, call{"after", 10, 0, 0}, result{n: 2, s: state(5, 3, []api.CkTimer{timer(2, 10, 0, 0), timer(1, 20, 1, 7)}, nil)})
	s = check(t, s, call{"after", 20, 1000, maxHandle}, result{n: 3, s: state(5, 4, []api.CkTimer{timer(2, 10, 0, 0), timer(1, 20, 1, 7), timer(3, 20, 1000, maxHandle)}, nil)})
	s = after(t, s, call{"scope", 0, 50, 0})
	s = check(t, s, call{"after", 0, 2, 2}, result{n: 5, s: state(5, 6, []api.CkTimer{timer(5, 0, 2, 2), timer(2, 10, 0, 0), timer(1, 20, 1, 7), timer(3, 20, 1000, maxHandle)}, s.Scopes)})
	check(t, s, call{"after", maxTime, 2, 2}, result{n: 6, s: state(5, 7, append(slices.Clone(s.Timers), timer(6, maxTime, 2, 2)), s.Scopes)})
	for _, n := range beyond(maxTime) {
		checkError(t, s, call{"after", n, 0, 0}, api.ErrRange)
	}
	for _, n := range beyond(1000) {
		checkError(t, s, call{"after", 7, n, 0}, api.ErrRange)
	}
	for _, n := range beyond(maxHandle) {
		checkError(t, s, call{"after", 7, 0, n}, api.ErrRange)
	}
}

func TestAfterOfPastTimes(t *testing.T) { // P4.2: it fires at the next tick, also at one to the same time
	for at := range int64(7) {
		s := after(t, begun(t, 5), call{"after", at, 1, 0})
		want := result{s: s}
		if at <= 5 {
			want = result{s: state(5, 2, nil, nil), timers: s.Timers}
		}
		check(t, s, call{"tick", 5, 0, 0}, want)
	}
}

// full is a clock with n timers, all at the time at.
func full(n int, at int64) api.CkState {
	s := state(5, int64(n)+1, nil, nil)
	for i := range n {
		s.Timers = append(s.Timers, api.CkTimer{Id: int64(i) + 1, At: at})
	}
	return s
}

func TestAfterWhenFull(t *testing.T) { // P4.2
	s := full(1999, 9)
	s = check(t, s, call{"after", 9, 0, 0}, result{n: 2000, s: full(2000, 9)})
	checkError(t, s, call{"after", 9, 0, 0}, api.ErrFull)
	checkError(t, s, call{"after", -1, 0, 0}, api.ErrRange)
	checkError(t, s, call{"after", 0, 1001, 0}, api.ErrRange)
	checkError(t, s, call{"after", 0, 0, -1}, api.ErrRange)
	check(t, s, call{"scope", 0, never, 0}, result{n: 2001, s: state(5, 2002, s.Timers, []api.CkScope{scope(2001, 0, never, 0)})})
	stopped := after(t, s, call{"stop", 7, 0, 0})
	after(t, stopped, call{"after", 9, 0, 0})

	s = state(5, maxHandle-1, nil, nil)
	s = check(t, s, call{"after", 9, 0, 0}, result{n: maxHandle - 1, s: state(5, maxHandle, []api.CkTimer{timer(maxHandle-1, 9, 0, 0)}, nil)})
	checkError(t, s, call{"after", 9, 0, 0}, api.ErrFull)
	checkError(t, s, call{"after", 9, 0, maxHandle + 1}, api.ErrRange)
	checkError(t, state(5, maxHandle, nil, nil), call{"after", 9, 0, 0}, api.ErrFull)
}

// timers are three timers, two of them at the same time, and a scope.
func timers(t *testing.T) api.CkState {
	t.Helper()
	return after(t, begun(t, 5), call{"after", 20, 1, 7}, call{"after", 10, 2, 8}, call{"scope", 0, 50, 0}, call{"after", 20, 3, 9})
}

func TestStop(t *testing.T) { // P4.2
	s := timers(t)
	one, two, four := timer(1, 20, 1, 7), timer(2, 10, 2, 8), timer(4, 20, 3, 9)
	check(t, s, call{"stop", 1, 0, 0}, result{timers: []api.CkTimer{one}, s: state(5, 5, []api.CkTimer{two, four}, s.Scopes)})
	check(t, s, call{"stop", 2, 0, 0}, result{timers: []api.CkTimer{two}, s: state(5, 5, []api.CkTimer{one, four}, s.Scopes)})
	check(t, s, call{"stop", 4, 0, 0}, result{timers: []api.CkTimer{four}, s: state(5, 5, []api.CkTimer{two, one}, s.Scopes)})
	for _, n := range []int64{0, -1, 3, 5, 6, math.MinInt64, math.MaxInt64} {
		checkError(t, s, call{"stop", n, 0, 0}, api.ErrNone)
	}
	s = after(t, s, call{"stop", 1, 0, 0})
	checkError(t, s, call{"stop", 1, 0, 0}, api.ErrNone)
	s = after(t, s, call{"tick", 10, 0, 0})
	checkError(t, s, call{"stop", 2, 0, 0}, api.ErrNone)
	check(t, s, call{"after", 30, 0, 0}, result{n: 5, s: state(10, 6, []api.CkTimer{four, timer(5, 30, 0, 0)}, s.Scopes)})
}

func TestDue(t *testing.T) { // P4.3
	s := begun(t, 5)
	checkError(t, s, call{"due", 0, 0, 0}, api.ErrNone)
	s = after(t, s, call{"scope", 0, never, 0}, call{"scope", 0, 4, 0})
	checkError(t, s, call{"due", 0, 0, 0}, api.ErrNone)
	for _, x := range []struct {
		c   call
		due int64
	}{
		{call{"after", maxTime, 0, 0}, maxTime},
		{call{"scope", 1, maxTime - 1, 0}, maxTime - 1},
		{call{"after", 30, 0, 0}, 30},
		{call{"after", 30, 0, 0}, 30},
		{call{"scope", 1, 20, 0}, 20},
		{call{"scope", 0, 25, 0}, 20},
		{call{"after", 20, 0, 0}, 20},
		{call{"scope", 0, 6, 0}, 6},
		{call{"scope", 0, 5, 0}, 6},
		{call{"after", 5, 0, 0}, 5},
		{call{"after", 0, 0, 0}, 0},
		{call{"tick", 6, 0, 0}, 20},
		{call{"cancel", 1, 0, 0}, 20},
		{call{"tick", 20, 0, 0}, 25},
		{call{"cancel", 8, 0, 0}, 30},
		{call{"tick", 40, 0, 0}, maxTime},
	} {
		s = after(t, s, x.c)
		check(t, s, call{"due", 0, 0, 0}, result{s: s, n: x.due})
	}
	s = after(t, s, call{"tick", maxTime, 0, 0})
	checkError(t, s, call{"due", 0, 0, 0}, api.ErrNone)
	check(t, state(5, 2, nil, []api.CkScope{scope(1, 0, maxTime, 0)}), call{"due", 0, 0, 0}, result{n: maxTime, s: state(5, 2, nil, []api.CkScope{scope(1, 0, maxTime, 0)})})
}

func TestTick(t *testing.T) { // P4.3
	s := timers(t)
	s = after(t, s, call{"scope", 3, 10, 0}, call{"scope", 0, never, 0}, call{"scope", 0, 10, 0}, call{"scope", 5, 30, 0}, call{"cancel", 7, 0, 0})
	one, two, four := timer(1, 20, 1, 7), timer(2, 10, 2, 8), timer(4, 20, 3, 9)
	scopes := func(three, five, seven int) []api.CkScope {
		return []api.CkScope{scope(3, 0, 50, three), scope(5, 3, 10, five), scope(6, 0, never, 0), scope(7, 0, 10, 1), scope(8, 5, 10, seven)}
	}
	all := []api.CkTimer{two, one, four}
	check(t, s, call{"tick", 5, 0, 0}, result{s: state(5, 9, all, scopes(0, 0, 0))})
	check(t, s, call{"tick", 9, 0, 0}, result{s: state(9, 9, all, scopes(0, 0, 0))})
	check(t, s, call{"tick", 10, 0, 0}, result{s: state(10, 9, all[1:], scopes(0, 2, 2)), timers: all[:1], ids: []int64{5, 8}})
	check(t, s, call{"tick", 19, 0, 0}, result{s: state(19, 9, all[1:], scopes(0, 2, 2)), timers: all[:1], ids: []int64{5, 8}})
	check(t, s, call{"tick", 20, 0, 0}, result{s: state(20, 9, nil, scopes(0, 2, 2)), timers: all, ids: []int64{5, 8}})
	check(t, s, call{"tick", 50, 0, 0}, result{s: state(50, 9, nil, scopes(2, 2, 2)), timers: all, ids: []int64{3, 5, 8}})
	check(t, s, call{"tick", maxTime, 0, 0}, result{s: state(maxTime, 9, nil, scopes(2, 2, 2)), timers: all, ids: []int64{3, 5, 8}})
	for _, to := range append(beyond(maxTime), 4, 0) {
		checkError(t, s, call{"tick", to, 0, 0}, api.ErrRange)
	}
	last := state(maxTime, 2, nil, []api.CkScope{scope(1, 0, never, 0)})
	check(t, last, call{"tick", maxTime, 0, 0}, result{s: last})
	checkError(t, last, call{"tick", maxTime - 1, 0, 0}, api.ErrRange)
	checkError(t, last, call{"tick", never, 0, 0}, api.ErrRange)
}

func TestTickOfMany(t *testing.T) { // P4.3
	s := full(2000, 9)
	check(t, s, call{"tick", 8, 0, 0}, result{s: state(8, 2001, s.Timers, nil)})
	check(t, s, call{"tick", 9, 0, 0}, result{s: state(9, 2001, nil, nil), timers: s.Timers})
}

package clock_test

import (
	"math"
	"slices"
	"testing"

	"spillway/api"
	"spillway/clock"
)

// outside reports whether a number of a clock is out of its range.
func outside(s api.CkState) bool {
	bad := s.Now < 0 || s.Now > maxTime || s.Next < 1 || s.Next > maxHandle
	for _, x := range s.Timers {
		bad = bad || x.Id < 1 || x.Id > s.Next-1 || x.At < 0 || x.At > maxTime || x.Kind < 0 || x.Kind > 1000 || x.Owner < 0 || x.Owner > maxHandle
	}
	for _, x := range s.Scopes {
		bad = bad || x.Id < 1 || x.Id > s.Next-1 || x.Deadline < 0 || x.Deadline > never || x.Why < 0 || x.Why > 2
	}
	return bad
}

// twice reports whether two numbers of a clock are the same.
func twice(s api.CkState) bool {
	var ids []int64
	for _, x := range s.Timers {
		ids = append(ids, x.Id)
	}
	for _, x := range s.Scopes {
		ids = append(ids, x.Id)
	}
	for i, a := range ids {
		if slices.Contains(ids[:i], a) {
			return true
		}
	}
	return false
}

// wrongTimers reports whether two timers are not in their order.
func wrongTimers(s api.CkState) bool {
	for i, b := range s.Timers {
		for _, a := range s.Timers[:i] {
			if a.At > b.At || a.At == b.At && a.Id > b.Id {
				return true
			}
		}
	}
	return false
}

// wrongScope reports whether a scope has no parent, or does not fit it or the time.
func wrongScope(s api.CkState, x api.CkScope) bool {
	if x.Why == api.CkLive && x.Deadline <= s.Now || x.Why == api.CkDeadline && x.Deadline > s.Now {
		return true
	}
	if x.Parent == 0 {
		return false
	}
	for _, p := range s.Scopes {
		if p.Id == x.Parent && p.Id < x.Id {
			return x.Deadline > p.Deadline || p.Why != api.CkLive && x.Why == api.CkLive
		}
	}
	return true
}

// wanted is what Check should return.
func wanted(s api.CkState) api.Errno {
	if len(s.Timers) > 2000 || len(s.Scopes) > 500 {
		return api.ErrLong
	}
	if outside(s) {
		return api.ErrRange
	}
	if twice(s) {
		return api.ErrTwice
	}
	wrong := wrongTimers(s)
	for i, x := range s.Scopes {
		wrong = wrong || wrongScope(s, x) || i > 0 && s.Scopes[i-1].Id > x.Id
	}
	if wrong {
		return api.ErrForm
	}
	return api.OK
}

// checkCheck fails if Check is wrong about a clock.
func checkCheck(t *testing.T, s api.CkState) {
	t.Helper()
	if e, want := clock.Check(s), wanted(s); e != want {
		t.Fatalf("Check(%.500v): %d, want %d", s, e, want)
	}
}

// cloned is a clock in other memory.
func cloned(s api.CkState) api.CkState {
	return state(s.Now, s.Next, slices.Clone(s.Timers), slices.Clone(s.Scopes))
}

// places are where the numbers of a clock are, as functions that set them.
func places(s api.CkState) []func(s *api.CkState, n int64) {
	l := []func(s *api.CkState, n int64){
		func(s *api.CkState, n int64) { s.Now = n },
		func(s *api.CkState, n int64) { s.Next = n },
	}
	for i := range s.Timers {
		l = append(l,
			func(s *api.CkState, n int64) { s.Timers[i].Id = n },
			func(s *api.CkState, n int64) { s.Timers[i].At = n },
			func(s *api.CkState, n int64) { s.Timers[i].Kind = int(n) },
			func(s *api.CkState, n int64) { s.Timers[i].Owner = n })
	}
	for i := range s.Scopes {
		l = append(l,
			func(s *api.CkState, n int64) { s.Scopes[i].Id = n },
			func(s *api.CkState, n int64) { s.Scopes[i].Parent = n },
			func(s *api.CkState, n int64) { s.Scopes[i].Deadline = n },
			func(s *api.CkState, n int64) { s.Scopes[i].Why = int(n) })
	}
	return l
}

// edges are numbers that are at the edge of something.
var edges = []int64{
	math.MinInt64, -1 << 32, -1, 0, 1, 2, 3, 4, 5, 6, 7, 8, 9, 10, 14, 15, 16, 19, 20, 21, 99, 999, 1000, 1001,
	maxTime - 1, maxTime, never, never + 1, maxHandle - 1, maxHandle, maxHandle + 1, math.MaxInt64,
}

// valid are some clocks that are valid.
func valid(t *testing.T) []api.CkState {
	t.Helper()
	l := []api.CkState{begun(t, 0), begun(t, 5), begun(t, maxTime), timers(t), family(t), full(3, 9), full(3, 0), deep(4), state(maxTime, maxHandle, nil, nil)}
	l = append(l, after(t, family(t), call{"after", 3, 1, 1}, call{"after", 3, 1, 1}, call{"tick", 5, 0, 0}))
	for _, c := range []call{{"cancel", 1, 0, 0}, {"cancel", 3, 0, 0}, {"tick", 8, 0, 0}, {"tick", 15, 0, 0}, {"tick", maxTime, 0, 0}} {
		l = append(l, after(t, family(t), c))
	}
	l = append(l, state(5, 9, nil, []api.CkScope{scope(1, 0, 9, 1), scope(2, 1, 5, 2), scope(4, 0, 3, 2), scope(5, 4, 3, 1), scope(8, 4, 2, 2)}))
	return l
}

func TestCheckOfValidClocks(t *testing.T) { // P4.1
	for _, s := range valid(t) {
		if e := clock.Check(s); e != api.OK {
			t.Errorf("Check(%v): %d", s, e)
		}
		checkCheck(t, s)
	}
}

func TestCheckOfChangedClocks(t *testing.T) { // P4.1
	found := map[api.Errno]int{}
	for _, s := range valid(t) {
		l := places(s)
		for i, set := range l {
			for _, n := range edges {
				once := cloned(s)
				set(&once, n)
				checkCheck(t, once)
				found[clock.Check(once)]++
				for _, other := range l[:i] {
					for _, m := range edges {
						both := cloned(once)
						other(&both, m)
						checkCheck(t, both)
					}
				}
			}
		}
	}
	for _, e := range []api.Errno{api.OK, api.ErrRange, api.ErrTwice, api.ErrForm} {
		if found[e] < 10 {
			t.Errorf("%d clocks with the error %d", found[e], e)
		}
	}
}

func TestCheckOfOtherOrders(t *testing.T) { // P4.1
	for _, s := range valid(t) {
		for i := range s.Timers {
			for k := range i {
				u := cloned(s)
				u.Timers[i], u.Timers[k] = u.Timers[k], u.Timers[i]
				checkCheck(t, u)
			}
			u := cloned(s)
			u.Timers = append(u.Timers, u.Timers[i])
			checkCheck(t, u)
		}
		for i := range s.Scopes {
			for k := range i {
				u := cloned(s)
				u.Scopes[i], u.Scopes[k] = u.Scopes[k], u.Scopes[i]
				checkCheck(t, u)
			}
			u := cloned(s)
			u.Scopes = append(u.Scopes, u.Scopes[i])
			checkCheck(t, u)
			u.Scopes = slices.Delete(u.Scopes, i, i+1)
			checkCheck(t, u)
		}
	}
}

// eachScope calls f with all scopes of small numbers.
func eachScope(f func(x api.CkScope)) {
	for id := range int64(3) {
		for parent := range int64(4) {
			for _, deadline := range []int64{4, 5, 6, never} {
				for why := range 3 {
					f(scope(id+1, parent-1, deadline, why))
				}
			}
		}
	}
}

func TestCheckOfAllSmallScopes(t *testing.T) { // P4.1
	found := map[api.Errno]int{}
	eachScope(func(a api.CkScope) {
		checkCheck(t, state(5, 4, nil, []api.CkScope{a}))
		eachScope(func(b api.CkScope) {
			s := state(5, 4, nil, []api.CkScope{a, b})
			checkCheck(t, s)
			found[clock.Check(s)]++
			s.Timers = []api.CkTimer{timer(3, 1, 0, 0)}
			checkCheck(t, s)
			s.Scopes = []api.CkScope{scope(1, 0, 6, 0), a, b}
			checkCheck(t, s)
			s.Scopes[0].Why = api.CkCanceled
			checkCheck(t, s)
		})
	})
	if len(found) != 3 {
		t.Errorf("errors of two scopes: %v", found)
	}
}

func TestCheckOfNumbersThatFit(t *testing.T) { // P4.1: the least and the greatest ones
	for i, s := range []api.CkState{
		state(0, 1, nil, nil),
		state(maxTime, maxHandle, nil, nil),
		state(5, maxHandle, []api.CkTimer{timer(maxHandle-1, 0, 0, 0), timer(1, maxTime, 1000, maxHandle)}, nil),
		state(5, maxHandle, nil, []api.CkScope{scope(1, 0, never, 0), scope(maxHandle-1, 1, 0, 1)}),
		state(maxTime, 4, nil, []api.CkScope{scope(1, 0, never, 0), scope(2, 0, maxTime, 2), scope(3, 0, never, 1)}),
		state(0, 2, nil, []api.CkScope{scope(1, 0, 0, 2)}),
	} {
		if e := clock.Check(s); e != api.OK {
			t.Errorf("%d: Check: %d", i, e)
		}
	}
	for i, s := range []api.CkState{
		{},
		state(-1, 1, nil, nil),
		state(never, 1, nil, nil),
		state(0, 0, nil, nil),
		state(0, maxHandle+1, nil, nil),
		state(5, 2, []api.CkTimer{timer(2, 9, 0, 0)}, nil),
		state(5, 2, []api.CkTimer{timer(0, 9, 0, 0)}, nil),
		state(5, 2, []api.CkTimer{timer(1, never, 0, 0)}, nil),
		state(5, 2, []api.CkTimer{timer(1, 9, 1001, 0)}, nil),
		state(5, 2, []api.CkTimer{timer(1, 9, 0, maxHandle+1)}, nil),
		state(5, 2, nil, []api.CkScope{scope(2, 0, 9, 0)}),
		state(5, 2, nil, []api.CkScope{scope(0, 0, 9, 0)}),
		state(5, 2, nil, []api.CkScope{scope(1, 0, never+1, 0)}),
		state(5, 2, nil, []api.CkScope{scope(1, 0, 9, 3)}),
		state(5, 2, nil, []api.CkScope{scope(1, 0, 9, -1)}),
	} {
		if e := clock.Check(s); e != api.ErrRange {
			t.Errorf("%d: Check: %d", i, e)
		}
	}
}

func TestCheckOfParents(t *testing.T) { // P4.1: a parent that is none is no number out of range
	for _, parent := range []int64{-1, 2, 3, 4, 5, math.MinInt64, math.MaxInt64} {
		s := state(5, 5, []api.CkTimer{timer(1, 9, 0, 0)}, []api.CkScope{scope(2, parent, 9, 0), scope(3, 0, 9, 0)})
		if e := clock.Check(s); e != api.ErrForm {
			t.Errorf("Check with the parent %d: %d", parent, e)
		}
	}
}

func TestCheckOfMany(t *testing.T) { // P4.1
	for i, x := range []struct {
		s    api.CkState
		want api.Errno
	}{
		{full(2000, 9), api.OK},
		{full(2001, 9), api.ErrLong},
		{deep(500), api.OK},
		{deep(501), api.ErrLong},
		{state(-1, 0, make([]api.CkTimer, 2001), nil), api.ErrLong},
		{state(-1, 0, nil, make([]api.CkScope, 501)), api.ErrLong},
		{state(5, 3000, full(2000, 9).Timers, []api.CkScope{scope(2001, 0, 9, 0)}), api.OK},
		{state(5, 3000, full(2000, 9).Timers, []api.CkScope{scope(2000, 0, 9, 0)}), api.ErrTwice},
		{state(5, 3000, nil, make([]api.CkScope, 500)), api.ErrRange},
	} {
		if e := clock.Check(x.s); e != x.want || e != wanted(x.s) {
			t.Errorf("%d: Check: %d, want %d, %d", i, e, x.want, wanted(x.s))
		}
	}
}

func TestErrorOfCheckIsFirst(t *testing.T) { // P4.1 to P4.5
	for _, s := range []api.CkState{
		{},
		full(2001, 9),
		deep(501),
		state(5, 2, []api.CkTimer{timer(1, 9, 0, 0)}, []api.CkScope{scope(1, 0, 9, 0)}),
		state(5, 3, []api.CkTimer{timer(1, 9, 0, 0), timer(2, 8, 0, 0)}, nil),
		state(5, 3, []api.CkTimer{timer(1, 9, 0, 0)}, []api.CkScope{scope(2, 1, 9, 0)}),
		state(5, 3, full(1, 9).Timers, []api.CkScope{scope(2, 0, 5, 0)}),
		state(9, maxHandle, full(2000, 9).Timers, []api.CkScope{scope(2, 0, 5, 0)}),
	} {
		e := wanted(s)
		if e == api.OK {
			t.Fatalf("%v is valid", s)
		}
		for _, name := range names {
			for _, n := range []int64{-1, 0, 1, 2, 3, 8, 20, maxTime, never + 1} {
				checkError(t, s, call{name, n, 1, 1}, e)
				checkError(t, s, call{name, n, -1, -1}, e)
			}
		}
	}
}

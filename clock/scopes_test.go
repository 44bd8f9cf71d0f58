package clock_test

import (
	"math"
	"testing"

	"spillway/api"
)

// family are scopes at the time 5: 1 has 2, 3 and 6 below it, 3 has 6 below it, which has ended; 4 has none; 5 is a timer.
func family(t *testing.T) api.CkState {
	t.Helper()
	return after(t, begun(t, 5),
		call{"scope", 0, 15, 0}, call{"scope", 1, never, 0}, call{"scope", 1, 8, 0}, call{"scope", 0, never, 0}, call{"after", 99, 0, 0}, call{"scope", 3, 5, 0})
}

func TestScope(t *testing.T) { // P4.4
	s := begun(t, 5)
	var l []api.CkScope
	for i, x := range []struct{ parent, deadline, gets, why int64 }{
		{0, 15, 15, api.CkLive},
		{1, never, 15, api.CkLive},
		{1, 16, 15, api.CkLive},
		{1, 14, 14, api.CkLive},
		{4, 15, 14, api.CkLive},
		{0, never, never, api.CkLive},
		{6, never, never, api.CkLive},
		{6, maxTime, maxTime, api.CkLive},
		{0, 6, 6, api.CkLive},
		{0, 5, 5, api.CkDeadline},
		{1, 4, 4, api.CkDeadline},
		{0, 0, 0, api.CkDeadline},
		{11, 7, 4, api.CkDeadline},
		{11, 3, 3, api.CkDeadline},
		{12, never, 0, api.CkDeadline},
	} {
		id := int64(i) + 1
		l = append(l, scope(id, x.parent, x.gets, int(x.why)))
		s = check(t, s, call{"scope", x.parent, x.deadline, 0}, result{n: id, s: state(5, id+1, nil, l)})
	}
}

func TestScopeBelowOneThatHasEnded(t *testing.T) { // P4.4: for the same reason
	s := after(t, begun(t, 5), call{"scope", 0, 20, 0}, call{"cancel", 1, 0, 0})
	for _, deadline := range []int64{never, 30, 20, 6, 5, 4, 0} {
		want := state(5, 3, nil, []api.CkScope{scope(1, 0, 20, 1), scope(2, 1, min(deadline, 20), 1)})
		check(t, s, call{"scope", 1, deadline, 0}, result{n: 2, s: want})
	}
	s = after(t, begun(t, 5), call{"scope", 0, 20, 0}, call{"tick", 20, 0, 0})
	for _, deadline := range []int64{never, 30, 20, 6, 5, 4, 0} {
		want := state(20, 3, nil, []api.CkScope{scope(1, 0, 20, 2), scope(2, 1, min(deadline, 20), 2)})
		check(t, s, call{"scope", 1, deadline, 0}, result{n: 2, s: want})
	}
}

func TestScopeErrors(t *testing.T) { // P4.4
	s := family(t)
	for _, n := range beyond(never) {
		checkError(t, s, call{"scope", 0, n, 0}, api.ErrRange)
		checkError(t, s, call{"scope", 1, n, 0}, api.ErrRange)
		checkError(t, s, call{"scope", 9, n, 0}, api.ErrRange)
	}
	for _, n := range []int64{-1, 5, 7, 8, math.MinInt64, math.MaxInt64} {
		checkError(t, s, call{"scope", n, never, 0}, api.ErrNone)
		checkError(t, s, call{"scope", n, 0, 0}, api.ErrNone)
	}
	s = after(t, s, call{"forget", 6, 0, 0})
	checkError(t, s, call{"scope", 6, 9, 0}, api.ErrNone)
}

// deep is a clock with n scopes, each the parent of the next one.
func deep(n int) api.CkState {
	s := state(5, int64(n)+1, nil, nil)
	for i := range n {
		s.Scopes = append(s.Scopes, scope(int64(i)+1, int64(i), 9, 0))
	}
	return s
}

func TestScopeWhenFull(t *testing.T) { // P4.4
	s := check(t, deep(499), call{"scope", 499, never, 0}, result{n: 500, s: deep(500)})
	checkError(t, s, call{"scope", 0, 9, 0}, api.ErrFull)
	checkError(t, s, call{"scope", 500, 9, 0}, api.ErrFull)
	checkError(t, s, call{"scope", 501, 9, 0}, api.ErrNone)
	checkError(t, s, call{"scope", 501, -1, 0}, api.ErrRange)
	after(t, s, call{"after", 9, 0, 0})
	s = after(t, s, call{"cancel", 500, 0, 0}, call{"forget", 500, 0, 0})
	after(t, s, call{"scope", 0, 9, 0})

	s = state(5, maxHandle-1, nil, nil)
	s = check(t, s, call{"scope", 0, 9, 0}, result{n: maxHandle - 1, s: state(5, maxHandle, nil, []api.CkScope{scope(maxHandle-1, 0, 9, 0)})})
	checkError(t, s, call{"scope", 0, 9, 0}, api.ErrFull)
	checkError(t, s, call{"scope", 7, 9, 0}, api.ErrNone)
	checkError(t, s, call{"scope", 0, never + 1, 0}, api.ErrRange)
}

func TestCancel(t *testing.T) { // P4.4
	s := family(t)
	scopes := func(one, two, three, four int) api.CkState {
		return state(5, 7, s.Timers, []api.CkScope{scope(1, 0, 15, one), scope(2, 1, 15, two), scope(3, 1, 8, three), scope(4, 0, never, four), scope(6, 3, 5, 2)})
	}
	check(t, s, call{"cancel", 1, 0, 0}, result{ids: []int64{1, 2, 3}, s: scopes(1, 1, 1, 0)})
	check(t, s, call{"cancel", 2, 0, 0}, result{ids: []int64{2}, s: scopes(0, 1, 0, 0)})
	check(t, s, call{"cancel", 3, 0, 0}, result{ids: []int64{3}, s: scopes(0, 0, 1, 0)})
	check(t, s, call{"cancel", 4, 0, 0}, result{ids: []int64{4}, s: scopes(0, 0, 0, 1)})
	checkError(t, s, call{"cancel", 6, 0, 0}, api.ErrDown)
	for _, n := range []int64{0, 5, 7, -1, math.MinInt64, math.MaxInt64} {
		checkError(t, s, call{"cancel", n, 0, 0}, api.ErrNone)
	}
	two := after(t, s, call{"cancel", 2, 0, 0})
	checkError(t, two, call{"cancel", 2, 0, 0}, api.ErrDown)
	check(t, two, call{"cancel", 1, 0, 0}, result{ids: []int64{1, 3}, s: scopes(1, 1, 1, 0)})

	all := deep(500)
	var ids []int64
	for i := 250; i < 500; i++ {
		all.Scopes[i].Why = api.CkCanceled
		ids = append(ids, all.Scopes[i].Id)
	}
	check(t, deep(500), call{"cancel", 251, 0, 0}, result{ids: ids, s: all})
}

func TestWhyAndLeft(t *testing.T) { // P4.5
	s := after(t, family(t), call{"cancel", 2, 0, 0}, call{"scope", 4, maxTime, 0})
	for id, want := range map[int64][2]int64{
		1: {api.CkLive, 10}, 2: {api.CkCanceled, 0}, 3: {api.CkLive, 3}, 4: {api.CkLive, -1}, 6: {api.CkDeadline, 0}, 7: {api.CkLive, maxTime - 5},
	} {
		check(t, s, call{"why", id, 0, 0}, result{s: s, n: want[0]})
		check(t, s, call{"left", id, 0, 0}, result{s: s, n: want[1]})
	}
	s = after(t, s, call{"tick", 7, 0, 0})
	check(t, s, call{"left", 3, 0, 0}, result{s: s, n: 1})
	s = after(t, s, call{"tick", 8, 0, 0})
	check(t, s, call{"left", 3, 0, 0}, result{s: s})
	check(t, s, call{"why", 3, 0, 0}, result{s: s, n: api.CkDeadline})
	check(t, s, call{"left", 4, 0, 0}, result{s: s, n: -1})
	s = after(t, s, call{"cancel", 4, 0, 0})
	check(t, s, call{"left", 4, 0, 0}, result{s: s})
	check(t, s, call{"why", 7, 0, 0}, result{s: s, n: api.CkCanceled})
}

func TestBelow(t *testing.T) { // P4.5
	s := family(t)
	for id, want := range map[int64][]int64{1: {2, 3, 6}, 2: nil, 3: {6}, 4: nil, 6: nil} {
		check(t, s, call{"below", id, 0, 0}, result{s: s, ids: want})
		check(t, after(t, s, call{"tick", 99, 0, 0}), call{"below", id, 0, 0}, result{s: after(t, s, call{"tick", 99, 0, 0}), ids: want})
	}
	var ids []int64
	for i := range int64(499) {
		ids = append(ids, i+2)
	}
	check(t, deep(500), call{"below", 1, 0, 0}, result{s: deep(500), ids: ids})
}

func TestForget(t *testing.T) { // P4.5
	s := family(t)
	for id := range int64(5) {
		want := api.ErrDown
		if id == 0 {
			want = api.ErrNone
		}
		checkError(t, s, call{"forget", id, 0, 0}, want)
	}
	check(t, s, call{"forget", 6, 0, 0}, result{s: state(5, 7, s.Timers, s.Scopes[:4])})
	s = after(t, s, call{"cancel", 1, 0, 0})
	checkError(t, s, call{"forget", 1, 0, 0}, api.ErrDown)
	checkError(t, s, call{"forget", 3, 0, 0}, api.ErrDown)
	checkError(t, s, call{"forget", 4, 0, 0}, api.ErrDown)
	l := s.Scopes
	s = check(t, s, call{"forget", 2, 0, 0}, result{s: state(5, 7, s.Timers, []api.CkScope{l[0], l[2], l[3], l[4]})})
	checkError(t, s, call{"forget", 2, 0, 0}, api.ErrNone)
	s = after(t, s, call{"forget", 6, 0, 0}, call{"forget", 3, 0, 0})
	s = check(t, s, call{"forget", 1, 0, 0}, result{s: state(5, 7, s.Timers, []api.CkScope{l[3]})})
	check(t, s, call{"scope", 0, 9, 0}, result{n: 7, s: state(5, 8, s.Timers, []api.CkScope{l[3], scope(7, 0, 9, 0)})})
}

func TestNoSuchScope(t *testing.T) { // P4.5
	for _, s := range []api.CkState{begun(t, 5), family(t)} {
		for _, name := range []string{"why", "left", "below", "forget", "cancel"} {
			for _, n := range []int64{0, 5, 7, 8, -1, math.MinInt64, math.MaxInt64} {
				checkError(t, s, call{name, n, 0, 0}, api.ErrNone)
			}
		}
	}
}

package clock_test

import (
	"slices"
	"testing"

	"spillway/api"
)

// roomy is a clock in other memory, with room behind its timers and scopes, and all of that memory.
func roomy(s api.CkState) (api.CkState, []api.CkTimer, []api.CkScope) {
	t := append(make([]api.CkTimer, 0, len(s.Timers)+8), s.Timers...)
	l := append(make([]api.CkScope, 0, len(s.Scopes)+8), s.Scopes...)
	return state(s.Now, s.Next, t, l), t[:cap(t)], l[:cap(l)]
}

// wipe overwrites all memory of a result that a function returned.
func wipe(c call, r result) {
	if slices.Contains([]string{"after", "stop", "tick", "scope", "cancel", "forget"}, c.name) {
		wipeSlice(r.s.Timers, timer(-7, -7, -7, -7))
		wipeSlice(r.s.Scopes, scope(-7, -7, -7, -7))
	}
	wipeSlice(r.timers, timer(-7, -7, -7, -7))
	wipeSlice(r.ids, -7)
}

// wipeSlice overwrites all memory of a slice.
func wipeSlice[T any](l []T, with T) {
	l = l[:cap(l)]
	for i := range l {
		l[i] = with
	}
}

// someCalls are calls of all functions, with errors and without.
func someCalls() []call {
	var l []call
	for _, name := range names {
		for _, n := range []int64{-1, 0, 1, 2, 3, 4, 5, 6, 7, 8, 9, 15, 16, 20, 99, maxTime, never, never + 1} {
			l = append(l, call{name, n, 0, 0}, call{name, n, 7, 7}, call{name, n, -1, -1})
		}
	}
	return l
}

// clocks are clocks that are valid, and some that are not.
func clocks(t *testing.T) []api.CkState {
	t.Helper()
	return append(valid(t), api.CkState{}, full(2001, 9), deep(501), full(2000, 9), deep(500),
		state(5, 3, []api.CkTimer{timer(2, 9, 0, 0), timer(1, 8, 0, 0)}, []api.CkScope{scope(2, 1, 9, 0), scope(1, 5, 9, 9)}))
}

func TestArgumentsAreNotModified(t *testing.T) { // P4.9
	for _, s := range clocks(t) {
		given, timers, scopes := roomy(s)
		beforeTimers, beforeScopes := slices.Clone(timers), slices.Clone(scopes)
		for _, c := range someCalls() {
			do(given, c)
			if !slices.Equal(timers, beforeTimers) || !slices.Equal(scopes, beforeScopes) {
				t.Fatalf("%v has changed %.300v", c, s)
			}
		}
	}
}

func TestResultsAreNewMemory(t *testing.T) { // P4.9
	for _, s := range clocks(t) {
		given, timers, scopes := roomy(s)
		beforeTimers, beforeScopes := slices.Clone(timers), slices.Clone(scopes)
		for _, c := range someCalls() {
			first, second := do(given, c), do(given, c)
			want := second
			want.s = cloned(second.s)
			want.timers, want.ids = slices.Clone(second.timers), slices.Clone(second.ids)
			wipe(c, first)
			if !slices.Equal(timers, beforeTimers) || !slices.Equal(scopes, beforeScopes) {
				t.Fatalf("%v shares memory with %.300v", c, s)
			}
			if !same(second, want) {
				t.Fatalf("%v shares memory with another result of %.300v", c, s)
			}
		}
	}
}

func TestPartsOfAResultShareNoMemory(t *testing.T) { // P4.9
	s := after(t, family(t), call{"after", 7, 0, 0}, call{"after", 6, 0, 0})
	want := do(s, call{"tick", 8, 0, 0})
	r := do(s, call{"tick", 8, 0, 0})
	wipeSlice(r.timers, api.CkTimer{})
	wipeSlice(r.ids, 0)
	if !sameClock(r.s, want.s) {
		t.Errorf("%v after what it shares memory with was changed, before %v", r.s, want.s)
	}
	r = do(s, call{"tick", 8, 0, 0})
	wipeSlice(r.s.Timers, api.CkTimer{})
	wipeSlice(r.s.Scopes, api.CkScope{})
	if !slices.Equal(r.timers, want.timers) || !slices.Equal(r.ids, want.ids) {
		t.Errorf("%v after the clock was changed, before %v", r, want)
	}
}

func TestNilAndEmptyAreTheSame(t *testing.T) { // R4, P4.9
	empty := state(5, 9, []api.CkTimer{}, []api.CkScope{})
	for _, c := range someCalls() {
		if a, b := do(empty, c), do(state(5, 9, nil, nil), c); !same(a, b) {
			t.Errorf("%v: %v of empty lists, %v of nil", c, a, b)
		}
	}
}

func TestAnyArgumentsAreAccepted(t *testing.T) { // R1, P4.9
	for _, s := range []api.CkState{{}, family(t), state(maxTime, maxHandle, nil, nil)} {
		for _, name := range names {
			for _, a := range edges {
				for _, b := range edges {
					for _, c := range []int64{edges[0], 0, maxHandle, edges[len(edges)-1]} {
						r := do(s, call{name, a, b, c})
						if wanted(s) == api.OK && wanted(r.s) != api.OK {
							t.Fatalf("%v: the clock %v is not valid", call{name, a, b, c}, r.s)
						}
					}
				}
			}
		}
	}
}

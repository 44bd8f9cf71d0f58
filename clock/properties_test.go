package clock_test

import (
	"slices"
	"testing"

	"spillway/api"
	"spillway/clock"
)

// tick is Tick, which must succeed.
func tick(t *testing.T, s api.CkState, to int64) (api.CkState, []api.CkTimer, []int64) {
	t.Helper()
	u, fired, ended, e := clock.Tick(s, to)
	if e != api.OK {
		t.Fatalf("Tick to %d: %d", to, e)
	}
	return u, fired, ended
}

func TestTicksAreLikeOne(t *testing.T) { // P4.6
	next := numbers(3)
	for _, s := range random(t, 300) {
		to := s.Now
		u := s
		var fired []api.CkTimer
		var ended []int64
		for range 1 + next(5) {
			to += next(12)
			var f []api.CkTimer
			var l []int64
			u, f, l = tick(t, u, to)
			fired = append(fired, f...)
			ended = append(ended, l...)
		}
		slices.Sort(ended)
		v, f, l := tick(t, s, to)
		if !sameClock(u, v) || !slices.Equal(fired, f) || !slices.Equal(ended, l) {
			t.Fatalf("%v: ticks up to %d: %v, %v, %v; one tick: %v, %v, %v", s, to, u, fired, ended, v, f, l)
		}
	}
}

func TestTimersFireOnce(t *testing.T) { // P4.6
	for seed := range uint64(20) {
		next := numbers(seed)
		s := begun(t, 0)
		waiting := map[int64]api.CkTimer{}
		for range 300 {
			c := anyCall(next, s)
			r := do(s, c)
			s = r.s
			if r.e != api.OK {
				continue
			}
			switch c.name {
			case "after":
				waiting[r.n] = timer(r.n, c.a, int(c.b), c.c)
			case "stop":
				delete(waiting, c.a)
			case "tick":
				checkFired(t, waiting, r.timers, c.a)
			}
		}
		_, fired, _ := tick(t, s, maxTime)
		checkFired(t, waiting, fired, maxTime)
		if len(waiting) > 0 {
			t.Fatalf("%v have not fired", waiting)
		}
	}
}

// checkFired takes the timers that have fired out of those that wait, and fails if these are others than those whose time has come.
func checkFired(t *testing.T, waiting map[int64]api.CkTimer, fired []api.CkTimer, to int64) {
	t.Helper()
	for _, x := range fired {
		if waiting[x.Id] != x || x.At > to {
			t.Fatalf("%v has fired at %d, and %v wait", x, to, waiting)
		}
		delete(waiting, x.Id)
	}
	for _, x := range waiting {
		if x.At <= to {
			t.Fatalf("%v has not fired at %d", x, to)
		}
	}
}

// reasons are why the scopes of a clock have ended, as the functions say it.
func reasons(t *testing.T, s api.CkState) map[int64]int {
	t.Helper()
	whys := map[int64]int{}
	for _, x := range s.Scopes {
		why, e := clock.Why(s, x.Id)
		if e != api.OK {
			t.Fatalf("Why(%d): %d", x.Id, e)
		}
		whys[x.Id] = why
	}
	return whys
}

func TestScopesEnd(t *testing.T) { // P4.7
	for seed := range uint64(20) {
		next := numbers(seed + 50)
		s := begun(t, 0)
		ended := map[int64]int{}
		for range 200 {
			c := anyCall(next, s)
			r := do(s, c)
			s = r.s
			whys := reasons(t, s)
			for _, x := range s.Scopes {
				if x.Why == api.CkLive && (x.Deadline <= s.Now || x.Parent != 0 && whys[x.Parent] != api.CkLive) {
					t.Fatalf("%v lives after %v: %v", x, c, s)
				}
				if why, ok := ended[x.Id]; ok && why != whys[x.Id] {
					t.Fatalf("%d has ended because of %d, and now of %d", x.Id, why, whys[x.Id])
				}
				if whys[x.Id] != api.CkLive {
					ended[x.Id] = whys[x.Id]
				}
			}
			if c.name == "cancel" && r.e == api.OK {
				checkAllEnded(t, s, c.a)
			}
		}
	}
}

// checkAllEnded fails if a scope, or one below it, lives.
func checkAllEnded(t *testing.T, s api.CkState, id int64) {
	t.Helper()
	l, e := clock.Below(s, id)
	if e != api.OK {
		t.Fatalf("Below(%d): %d", id, e)
	}
	for _, id := range append(l, id) {
		left, e := clock.Left(s, id)
		if why, f := clock.Why(s, id); why == api.CkLive || left != 0 || e != api.OK || f != api.OK {
			t.Fatalf("%d lives for %d: %d, %d", id, left, e, f)
		}
	}
}

func TestDeadlinesPass(t *testing.T) { // P4.7: as soon as the clock shows them or more
	for to := range int64(12) {
		s := after(t, begun(t, 0), call{"scope", 0, 9, 0}, call{"scope", 1, never, 0}, call{"scope", 2, 7, 0}, call{"scope", 0, 8, 0}, call{"scope", 0, maxTime, 0}, call{"tick", to, 0, 0})
		whys := reasons(t, s)
		for id, deadline := range map[int64]int64{1: 9, 2: 9, 3: 7, 4: 8, 5: maxTime} {
			want := api.CkLive
			if to >= deadline {
				want = api.CkDeadline
			}
			if whys[id] != want {
				t.Errorf("the scope %d at %d: %d", id, to, whys[id])
			}
		}
	}
}

func TestNothingBeforeDue(t *testing.T) { // P4.8
	found := 0
	for _, s := range random(t, 300) {
		due, e := clock.Due(s)
		if e != api.OK {
			u, fired, ended := tick(t, s, maxTime)
			if e != api.ErrNone || len(fired) > 0 || len(ended) > 0 || u.Now != maxTime {
				t.Fatalf("Due(%v): %d, but %v fire and %v end", s, e, fired, ended)
			}
			continue
		}
		found++
		for to := s.Now; to < due; to++ {
			if _, fired, ended := tick(t, s, to); len(fired) > 0 || len(ended) > 0 {
				t.Fatalf("%v: at %d, before %d, %v fire and %v end", s, to, due, fired, ended)
			}
		}
		if _, fired, ended := tick(t, s, max(due, s.Now)); len(fired) == 0 && len(ended) == 0 {
			t.Fatalf("%v: at %d nothing happens", s, due)
		}
	}
	if found < 100 {
		t.Errorf("%d clocks with something due", found)
	}
}

func TestClocksAreValid(t *testing.T) { // P4.9
	for _, s := range append(random(t, 40), valid(t)...) {
		for _, c := range someCalls() {
			if r := do(s, c); clock.Check(r.s) != api.OK || wanted(r.s) != api.OK {
				t.Fatalf("%v of %v: %v", c, s, r.s)
			}
		}
	}
}

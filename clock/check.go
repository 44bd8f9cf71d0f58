package clock

import (
	"cmp"
	"slices"

	"spillway/api"
)

// maxKind is the greatest kind of a timer.
const maxKind = 1000

// Check returns OK if a clock is valid.
func Check(s api.CkState) api.Errno {
	if len(s.Timers) > api.MaxCkTimers || len(s.Scopes) > api.MaxCkScopes {
		return api.ErrLong
	}
	if !inRange(s) {
		return api.ErrRange
	}
	if numberTwice(s) {
		return api.ErrTwice
	}
	if !slices.IsSortedFunc(s.Timers, compareTimers) || !slices.IsSortedFunc(s.Scopes, compareScopes) || !scopesFit(s) {
		return api.ErrForm
	}
	return api.OK
}

// inRange reports whether the numbers of a clock are ones that it may have.
func inRange(s api.CkState) bool {
	if !isTime(s.Now) || !within(1, s.Next, api.MaxHandle) {
		return false
	}
	for _, x := range s.Timers {
		if !within(1, x.Id, s.Next-1) || !timerInRange(x) {
			return false
		}
	}
	for _, x := range s.Scopes {
		if !within(1, x.Id, s.Next-1) || !isDeadline(x.Deadline) || !within(api.CkLive, x.Why, api.CkDeadline) {
			return false
		}
	}
	return true
}

// timerInRange reports whether a timer has a time, a kind and an owner that it may have.
func timerInRange(x api.CkTimer) bool {
	return isTime(x.At) && within(0, x.Kind, maxKind) && within(0, x.Owner, api.MaxHandle)
}

// isTime reports whether n is a time.
func isTime(n int64) bool {
	return within(0, n, api.MaxTime)
}

// isDeadline reports whether n is a time, or never.
func isDeadline(n int64) bool {
	return within(0, n, never)
}

// within reports whether n is from low to high.
func within[N int | int64](low, n, high N) bool {
	return low <= n && n <= high
}

// numberTwice reports whether two timers or scopes have the same number.
func numberTwice(s api.CkState) bool {
	met := map[int64]bool{}
	for _, x := range s.Timers {
		met[x.Id] = true
	}
	for _, x := range s.Scopes {
		met[x.Id] = true
	}
	return len(met) < len(s.Timers)+len(s.Scopes)
}

// compareTimers returns a negative number if a comes before b, and a positive one if b comes before a.
func compareTimers(a, b api.CkTimer) int {
	return cmp.Or(cmp.Compare(a.At, b.At), cmp.Compare(a.Id, b.Id))
}

// compareScopes returns a negative number if a comes before b, and a positive one if b comes before a.
func compareScopes(a, b api.CkScope) int {
	return cmp.Compare(a.Id, b.Id)
}

// scopesFit reports whether the scopes of a clock fit their parents and the time.
func scopesFit(s api.CkState) bool {
	parents := parentsOf(s)
	for _, x := range s.Scopes {
		above, ok := parents[x.Parent]
		if !ok || above.Id >= x.Id || !fitsParent(x, above) || !fitsTime(x, s.Now) {
			return false
		}
	}
	return true
}

// fitsParent reports whether a scope ends no later than its parent, and has ended if that has.
func fitsParent(x, above api.CkScope) bool {
	return x.Deadline <= above.Deadline && (above.Why == api.CkLive || x.Why != api.CkLive)
}

// fitsTime reports whether a scope that lives, or has ended because of its deadline, does so at a time.
func fitsTime(x api.CkScope, now int64) bool {
	switch x.Why {
	case api.CkLive:
		return x.Deadline > now
	case api.CkDeadline:
		return x.Deadline <= now
	}
	return true
}

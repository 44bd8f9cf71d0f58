package clock

import (
	"slices"

	"spillway/api"
)

// Scope begins a scope below a parent, and returns its number.
func Scope(s api.CkState, parent, deadline int64) (api.CkState, int64, api.Errno) {
	next := copyOf(s)
	if e := Check(s); e != api.OK {
		return next, 0, e
	}
	if !isDeadline(deadline) {
		return next, 0, api.ErrRange
	}
	above, ok := parentsOf(s)[parent]
	if !ok {
		return next, 0, api.ErrNone
	}
	if len(s.Scopes) == api.MaxCkScopes || s.Next == api.MaxHandle {
		return next, 0, api.ErrFull
	}
	x := api.CkScope{Id: s.Next, Parent: parent, Deadline: min(deadline, above.Deadline), Why: above.Why}
	if x.Why == api.CkLive && x.Deadline <= s.Now {
		x.Why = api.CkDeadline
	}
	next.Scopes = append(next.Scopes, x)
	next.Next++
	return next, x.Id, api.OK
}

// Cancel ends a scope and what is below it, and returns the numbers of those that have ended.
func Cancel(s api.CkState, scope int64) (api.CkState, []int64, api.Errno) {
	next := copyOf(s)
	x, e := find(s, scope)
	if e != api.OK {
		return next, nil, e
	}
	if x.Why != api.CkLive {
		return next, nil, api.ErrDown
	}
	down := append(below(s, scope), scope)
	ended := end(next.Scopes, api.CkCanceled, func(x api.CkScope) bool { return slices.Contains(down, x.Id) })
	return next, ended, api.OK
}

// Why returns why a scope has ended, or CkLive.
func Why(s api.CkState, scope int64) (int, api.Errno) {
	x, e := find(s, scope)
	return x.Why, e
}

// Left returns how much time a scope has: 0 if it has ended, -1 if its deadline is never.
func Left(s api.CkState, scope int64) (int64, api.Errno) {
	x, e := find(s, scope)
	if e != api.OK || x.Why != api.CkLive {
		return 0, e
	}
	if x.Deadline == never {
		return -1, api.OK
	}
	return x.Deadline - s.Now, api.OK
}

// Below returns the numbers of the scopes below a scope.
func Below(s api.CkState, scope int64) ([]int64, api.Errno) {
	if _, e := find(s, scope); e != api.OK {
		return nil, e
	}
	return below(s, scope), api.OK
}

// Forget takes out a scope that has ended, and has none below it.
func Forget(s api.CkState, scope int64) (api.CkState, api.Errno) {
	next := copyOf(s)
	x, e := find(s, scope)
	if e != api.OK {
		return next, e
	}
	if x.Why == api.CkLive || len(below(s, scope)) > 0 {
		return next, api.ErrDown
	}
	next.Scopes = slices.DeleteFunc(next.Scopes, func(x api.CkScope) bool { return x.Id == scope })
	return next, api.OK
}

// find returns the scope with a number.
func find(s api.CkState, scope int64) (api.CkScope, api.Errno) {
	if e := Check(s); e != api.OK {
		return api.CkScope{}, e
	}
	i := slices.IndexFunc(s.Scopes, func(x api.CkScope) bool { return x.Id == scope })
	if i < 0 {
		return api.CkScope{}, api.ErrNone
	}
	return s.Scopes[i], api.OK
}

// parentsOf returns what may be a parent, by its number. The parent 0 of scopes that have none is one that lives for ever.
func parentsOf(s api.CkState) map[int64]api.CkScope {
	parents := map[int64]api.CkScope{0: {Deadline: never}}
	for _, x := range s.Scopes {
		parents[x.Id] = x
	}
	return parents
}

// below returns the numbers of the scopes of a valid clock below a scope.
func below(s api.CkState, scope int64) []int64 {
	var ids []int64
	above := map[int64]bool{scope: true}
	for _, x := range s.Scopes {
		// The number of a parent is the lesser one, so it was met before.
		if above[x.Parent] {
			above[x.Id] = true
			ids = append(ids, x.Id)
		}
	}
	return ids
}

// end ends the scopes that live and are ones that have to, and returns their numbers.
func end(l []api.CkScope, why int, hasTo func(x api.CkScope) bool) []int64 {
	var ids []int64
	for i, x := range l {
		if x.Why == api.CkLive && hasTo(x) {
			l[i].Why = why
			ids = append(ids, x.Id)
		}
	}
	return ids
}

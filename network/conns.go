package network

import (
	"slices"

	"spillway/api"
)

// advance lets happen to a connection what is due at a time, and returns the kinds of what has happened.
func advance(c *api.NwConn, p api.NwPlan, now int64) []int {
	var kinds []int
	if c.Status == api.NwDialling && c.Ready <= now {
		if p.Fail == api.NwGood {
			c.Status = api.NwUp
			kinds = append(kinds, api.NwDialled)
		} else {
			c.Status = api.NwFailed
			kinds = append(kinds, api.NwRejected)
		}
	}
	for _, d := range directions(c) {
		if d.arrive(now) {
			kinds = append(kinds, d.event)
		}
	}
	return kinds
}

// dueOf returns the first time at which something happens to a connection, or never.
func dueOf(c api.NwConn) int64 {
	due := int64(never)
	if c.Status == api.NwDialling {
		due = c.Ready
	}
	for _, d := range directions(&c) {
		if len(*d.pieces) > 0 {
			due = min(due, (*d.pieces)[0].At)
		}
		if *d.end != api.NwOpen {
			due = min(due, *d.at)
		}
	}
	return due
}

// copyOf returns a network in new memory.
func copyOf(s api.NwState) api.NwState {
	s.Plans = slices.Clone(s.Plans)
	s.Conns = slices.Clone(s.Conns)
	for i, c := range s.Conns {
		s.Conns[i] = copyConn(c)
	}
	return s
}

// copyConn returns a connection in new memory.
func copyConn(c api.NwConn) api.NwConn {
	for _, d := range directions(&c) {
		*d.arrived = slices.Clone(*d.arrived)
		*d.pieces = slices.Clone(*d.pieces)
		for i, p := range *d.pieces {
			(*d.pieces)[i].Bytes = slices.Clone(p.Bytes)
		}
	}
	return c
}

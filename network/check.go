package network

import (
	"slices"

	"spillway/api"
)

// Check returns OK if a network is valid.
func Check(s api.NwState) api.Errno {
	if len(s.Plans) > api.MaxBackends || len(s.Conns) > api.MaxNwConns || slices.ContainsFunc(s.Conns, isLong) {
		return api.ErrLong
	}
	if !inRange(s) {
		return api.ErrRange
	}
	if !ascending(s.Conns) {
		return api.ErrForm
	}
	for _, c := range s.Conns {
		if c.Born > s.Now || !connFits(c) {
			return api.ErrForm
		}
	}
	return api.OK
}

// isLong reports whether a direction of a connection has too many bytes.
func isLong(c api.NwConn) bool {
	for _, d := range directions(&c) {
		if d.size() > api.MaxNwBytes {
			return true
		}
	}
	return false
}

// inRange reports whether the numbers of a network are ones that it may have.
func inRange(s api.NwState) bool {
	if !isTime(s.Now) || !within(1, s.Next, api.MaxHandle) {
		return false
	}
	for _, p := range s.Plans {
		if !planInRange(p) {
			return false
		}
	}
	for _, c := range s.Conns {
		if !within(1, c.Id, s.Next-1) || !within(0, c.Backend, len(s.Plans)-1) || !connInRange(c) {
			return false
		}
	}
	return true
}

// planInRange reports whether the numbers of a plan are ones that it may have.
func planInRange(p api.NwPlan) bool {
	return within(api.NwGood, p.Fail, api.NwSilent) && isDelay(p.Delay) && within(1, p.Window, api.MaxNwWindow)
}

// connInRange reports whether the numbers of a connection are ones that it may have in any network.
func connInRange(c api.NwConn) bool {
	if !within(api.NwDialling, c.Status, api.NwClosed) || !isTime(c.Born) || !within(0, c.Ready, never) || !within(0, c.Sent, api.MaxHandle) {
		return false
	}
	for _, d := range directions(&c) {
		if !isEnd(*d.end) || !isEnd(*d.ended) || !isTime(*d.at) {
			return false
		}
		for _, p := range *d.pieces {
			if !isTime(p.At) {
				return false
			}
		}
	}
	return true
}

// isTime reports whether n is a time.
func isTime(n int64) bool {
	return within(0, n, api.MaxTime)
}

// isDelay reports whether n is a delay.
func isDelay(n int64) bool {
	return within(0, n, api.MaxNwDelay)
}

// isEnd reports whether n is a kind of an end, or NwOpen.
func isEnd(n int) bool {
	return within(api.NwOpen, n, api.NwReset)
}

// within reports whether n is from low to high.
func within[N int | int64](low, n, high N) bool {
	return low <= n && n <= high
}

// ascending reports whether each connection has a greater number than the one in front of it.
func ascending(l []api.NwConn) bool {
	for i := 1; i < len(l); i++ {
		if l[i-1].Id >= l[i].Id {
			return false
		}
	}
	return true
}

// connFits reports whether the parts of a connection fit each other.
func connFits(c api.NwConn) bool {
	ways := directions(&c)
	for _, d := range ways {
		if !d.fits(c.Born) {
			return false
		}
	}
	if c.UpEnd == api.NwReset || c.InEnd == api.NwReset || c.OutEnd == api.NwReset && len(c.Out) > 0 {
		return false
	}
	up, down := ways[toBackend], ways[toClient]
	switch c.Status {
	case api.NwDialling, api.NwFailed:
		return up.isEmpty() && down.isEmpty() && c.Sent == 0
	case api.NwClosed:
		return down.isEmpty() && c.Sent >= int64(up.size())
	}
	return !up.hasEnd() && c.Sent >= int64(up.size())
}

// fits reports whether what is on the way in a direction arrives in its order, not before a time, and not after an end that has arrived.
func (d direction) fits(born int64) bool {
	last := born
	for _, p := range *d.pieces {
		if p.At < last || len(p.Bytes) == 0 {
			return false
		}
		last = p.At
	}
	if *d.end == api.NwOpen {
		return *d.at == 0 && (*d.ended == api.NwOpen || len(*d.pieces) == 0)
	}
	return *d.at >= last && *d.ended == api.NwOpen
}

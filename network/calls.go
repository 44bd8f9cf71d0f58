package network

import (
	"slices"

	"spillway/api"
)

// Write puts as many bytes on the way to the backend as the window has room for, and returns how many these are.
func Write(s api.NwState, conn int64, b []byte) (t api.NwState, n int, e api.Errno) {
	t, e = change(s, conn, func(c *api.NwConn, p api.NwPlan) api.Errno {
		up := directions(c)[toBackend]
		room := max(0, p.Window-up.onTheWay())
		some := b[:min(len(b), room)]
		switch {
		case c.Status != api.NwUp:
			return api.ErrDown
		case c.OutEnd == api.NwReset:
			return ErrReset
		case len(b) > 0 && room == 0:
			return api.ErrMore
		case up.size()+len(some) > api.MaxNwBytes || c.Sent+int64(len(some)) > api.MaxHandle:
			return api.ErrLong
		}
		up.put(some, after(s.Now, p.Delay))
		n = len(some)
		c.Sent += int64(n)
		return api.OK
	})
	return t, n, e
}

// Read takes bytes that have arrived at the client, at most so many.
func Read(s api.NwState, conn int64, most int) (t api.NwState, b []byte, e api.Errno) {
	t, e = change(s, conn, func(c *api.NwConn, _ api.NwPlan) api.Errno {
		switch {
		case c.Status != api.NwUp:
			return api.ErrDown
		case most < 1:
			return api.ErrRange
		case len(c.Out) > 0:
			n := min(most, len(c.Out))
			b, c.Out = slices.Clone(c.Out[:n]), c.Out[n:]
			return api.OK
		case c.OutEnd == api.NwClose:
			return ErrEnd
		case c.OutEnd == api.NwReset:
			return ErrReset
		}
		return api.ErrMore
	})
	return t, b, e
}

// Close closes a connection for the client.
func Close(s api.NwState, conn int64) (api.NwState, api.Errno) {
	return change(s, conn, func(c *api.NwConn, p api.NwPlan) api.Errno {
		if c.Status == api.NwFailed || c.Status == api.NwClosed {
			return api.ErrDown
		}
		ways := directions(c)
		if c.Status == api.NwUp {
			ways[toBackend].finish(api.NwClose, after(s.Now, p.Delay))
		}
		ways[toClient].empty()
		c.Status = api.NwClosed
		return api.OK
	})
}

// Take takes all bytes that have arrived at the backend, and returns them with the end that has arrived.
func Take(s api.NwState, conn int64) (t api.NwState, b []byte, end int, e api.Errno) {
	t, e = change(s, conn, func(c *api.NwConn, _ api.NwPlan) api.Errno {
		if !reached(c) {
			return api.ErrDown
		}
		b, c.In = c.In, nil
		end = c.InEnd
		return api.OK
	})
	return t, b, end, e
}

// Put puts bytes on the way to the client, which the backend needs some more time for.
func Put(s api.NwState, conn int64, b []byte, delay int64) (api.NwState, api.Errno) {
	return change(s, conn, func(c *api.NwConn, p api.NwPlan) api.Errno {
		down := directions(c)[toClient]
		switch {
		case !reached(c):
			return api.ErrDown
		case !isDelay(delay):
			return api.ErrRange
		case down.hasEnd():
			return api.ErrDown
		case down.size()+len(b) > api.MaxNwBytes:
			return api.ErrLong
		}
		if c.Status == api.NwUp {
			down.put(b, after(s.Now, p.Delay+delay))
		}
		return api.OK
	})
}

// Finish puts an end on the way to the client, behind all bytes.
func Finish(s api.NwState, conn int64, how int, delay int64) (api.NwState, api.Errno) {
	return change(s, conn, func(c *api.NwConn, p api.NwPlan) api.Errno {
		down := directions(c)[toClient]
		switch {
		case !reached(c):
			return api.ErrDown
		case !isDelay(delay):
			return api.ErrRange
		case how != api.NwClose && how != api.NwReset:
			return api.ErrArg
		case down.hasEnd():
			return api.ErrDown
		}
		if c.Status == api.NwUp {
			down.finish(how, after(s.Now, p.Delay+delay))
		}
		return api.OK
	})
}

// change returns a network in which a function has changed a connection, for which it gets the plan of the backend. A function that returns an error has changed nothing.
func change(s api.NwState, conn int64, by func(c *api.NwConn, p api.NwPlan) api.Errno) (api.NwState, api.Errno) {
	t := copyOf(s)
	if e := Check(s); e != api.OK {
		return t, e
	}
	i, ok := placeOf(s, conn)
	if !ok {
		return t, api.ErrNone
	}
	c := &t.Conns[i]
	return t, by(c, t.Plans[c.Backend])
}

// reached reports whether the backend may use a connection, also one that the client has closed.
func reached(c *api.NwConn) bool {
	return c.Status == api.NwUp || c.Status == api.NwClosed
}

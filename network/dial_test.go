package network_test

import (
	"testing"

	"spillway/api"
)

func TestDial(t *testing.T) { // P12.2
	for i, c := range []struct {
		backend, ready int64
	}{{0, 14}, {1, 11}, {2, never}, {3, 9}, {4, 100009}} {
		s := state(9, 7, up(3))
		r := check(t, s, dial(c.backend))
		want := state(9, 8, up(3), api.NwConn{Id: 7, Backend: int(c.backend), Status: api.NwDialling, Born: 9, Ready: c.ready})
		if r.e != api.OK || r.n != 7 || !same(r.s, want) {
			t.Errorf("%d: Dial: %s", i, short(r))
		}
	}
	for _, backend := range []int64{-1 << 40, -1, 5, 6, 16, 1 << 40} {
		checkError(t, state(9, 7, up(3)), dial(backend), api.ErrNone)
	}
	checkError(t, api.NwState{Next: 1}, dial(0), api.ErrNone)
}

func TestDialAtTheLastTime(t *testing.T) { // P12.2: a time that would be above MaxTime is MaxTime
	for now := int64(maxTime - 7); now <= maxTime; now++ {
		s := after(t, state(now, 1), dial(0), dial(1), dial(2), dial(3), dial(4))
		for i, ready := range []int64{min(now+5, maxTime), min(now+2, maxTime), never, now, maxTime} {
			if s.Conns[i].Ready != ready {
				t.Errorf("%d at %d is ready at %d, want %d", i, now, s.Conns[i].Ready, ready)
			}
		}
	}
}

func TestDialOfTooMany(t *testing.T) { // P12.2
	checkError(t, crowd(499), dial(0), api.OK)
	checkError(t, crowd(500), dial(0), api.ErrFull)
	checkError(t, crowd(500), dial(5), api.ErrNone)
	checkError(t, state(9, maxHandle-1), dial(0), api.OK)
	checkError(t, state(9, maxHandle), dial(0), api.ErrFull)
	checkError(t, state(9, maxHandle), dial(-1), api.ErrNone)
	s := state(0, 1)
	for i := range int64(500) {
		r := do(s, dial(i%5))
		if r.n != i+1 || r.e != api.OK {
			t.Fatalf("Dial: %d, %d", r.n, r.e)
		}
		s = r.s
	}
	checkError(t, s, dial(0), api.ErrFull)
}

func TestClose(t *testing.T) { // P12.2
	for i, c := range []struct {
		from, to api.NwConn
	}{
		{
			api.NwConn{Id: 1, Status: api.NwDialling, Born: 5, Ready: 10},
			api.NwConn{Id: 1, Status: api.NwClosed, Born: 5, Ready: 10},
		},
		{up(1), with(up(1), func(c *api.NwConn) { c.Status, c.UpEnd, c.UpAt = api.NwClosed, api.NwClose, 14 })},
		{
			full(1),
			with(full(1), func(c *api.NwConn) {
				c.Status, c.UpEnd, c.UpAt = api.NwClosed, api.NwClose, 14
				c.Down, c.Out, c.DownEnd, c.DownAt = nil, nil, api.NwOpen, 0
			}),
		},
		{
			with(up(1), func(c *api.NwConn) { c.Up, c.Sent, c.OutEnd = []api.NwPiece{piece(20, "late")}, 4, api.NwReset }),
			with(up(1), func(c *api.NwConn) {
				c.Up, c.Sent = []api.NwPiece{piece(20, "late")}, 4
				c.Status, c.UpEnd, c.UpAt = api.NwClosed, api.NwClose, 20
			}),
		},
		{
			with(up(1), func(c *api.NwConn) { c.Up, c.Sent, c.OutEnd = []api.NwPiece{piece(13, "early")}, 5, api.NwClose }),
			with(up(1), func(c *api.NwConn) {
				c.Up, c.Sent = []api.NwPiece{piece(13, "early")}, 5
				c.Status, c.UpEnd, c.UpAt = api.NwClosed, api.NwClose, 14
			}),
		},
		{
			with(up(1), func(c *api.NwConn) { c.Backend, c.DownEnd, c.DownAt = 3, api.NwReset, 10 }),
			with(up(1), func(c *api.NwConn) { c.Backend, c.Status, c.UpEnd, c.UpAt = 3, api.NwClosed, api.NwClose, 9 }),
		},
	} {
		r := check(t, state(9, 2, c.from), hangUp(1))
		if r.e != api.OK || !same(r.s, state(9, 2, c.to)) {
			t.Errorf("%d: Close: %s, want %s", i, short(r), short(c.to))
		}
		checkError(t, r.s, hangUp(1), api.ErrDown)
	}
}

func TestCloseAtTheLastTime(t *testing.T) { // P12.2
	for now := int64(maxTime - 7); now <= maxTime; now++ {
		r := check(t, state(now, 2, up(1)), hangUp(1))
		if c := r.s.Conns[0]; c.UpAt != min(now+5, maxTime) {
			t.Errorf("Close at %d: the end arrives at %d", now, c.UpAt)
		}
	}
}

func TestErrorsOfClose(t *testing.T) { // P12.2
	s := state(9, 15, conns()...)
	for _, c := range s.Conns {
		want := api.OK
		if c.Status == api.NwFailed || c.Status == api.NwClosed {
			want = api.ErrDown
		}
		checkError(t, s, hangUp(c.Id), want)
	}
	for _, id := range []int64{-1, 0, 15, 16, maxHandle} {
		checkError(t, s, hangUp(id), api.ErrNone)
	}
}

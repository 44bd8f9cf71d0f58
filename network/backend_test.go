package network_test

import (
	"testing"

	"spillway/api"
)

func TestTake(t *testing.T) { // P12.5
	for i, x := range []struct {
		c   api.NwConn
		b   string
		end int
		e   api.Errno
	}{
		{up(1), "", api.NwOpen, api.OK},
		{full(1), "def", api.NwOpen, api.OK},
		{left(1), "qrst", api.NwOpen, api.OK},
		{conns()[10], "qrst", api.NwClose, api.OK},
		{with(conns()[10], func(c *api.NwConn) { c.In = nil }), "", api.NwClose, api.OK},
		{conns()[11], "", api.NwOpen, api.OK},
		{conns()[7], "", api.NwOpen, api.OK},
		{conns()[8], "", api.NwOpen, api.OK},
		{conns()[0], "", 0, api.ErrDown},
		{conns()[1], "", 0, api.ErrDown},
		{conns()[3], "", 0, api.ErrDown},
	} {
		x.c.Id = 1
		s := state(9, 2, x.c)
		r := check(t, s, take(1))
		want := cloned(s)
		if x.e == api.OK {
			want.Conns[0].In = nil
		}
		if string(r.b) != x.b || r.end != x.end || r.e != x.e || !same(r.s, want) {
			t.Errorf("%d: Take: %s, want %s", i, short(r), short(want))
		}
		checkError(t, s, take(2), api.ErrNone)
	}
	// The end that has arrived stays.
	s := state(9, 12, conns()[10])
	for range 3 {
		r := check(t, s, take(11))
		if r.end != api.NwClose || r.e != api.OK {
			t.Errorf("Take: %s", short(r))
		}
		s = r.s
	}
}

func TestPut(t *testing.T) { // P12.5
	for i, x := range []struct {
		c     api.NwConn
		b     string
		delay int64
		e     api.Errno
		want  []api.NwPiece
	}{
		{up(1), "", 0, api.OK, nil},
		{up(1), "", 100000, api.OK, nil},
		{up(1), "a", 0, api.OK, []api.NwPiece{piece(14, "a")}},
		{up(1), "abc", 1, api.OK, []api.NwPiece{piece(15, "abc")}},
		{up(1), many(99), 100000, api.OK, []api.NwPiece{piece(100014, many(99))}},
		{up(1), "a", -1, api.ErrRange, nil},
		{up(1), "", 100001, api.ErrRange, nil},
		{with(up(1), func(c *api.NwConn) { c.Backend = 3 }), "a", 0, api.OK, []api.NwPiece{piece(9, "a")}},
		{with(up(1), func(c *api.NwConn) { c.Backend = 4 }), "a", 7, api.OK, []api.NwPiece{piece(100016, "a")}},
		{with(up(1), func(c *api.NwConn) { c.Down = []api.NwPiece{piece(15, "x")} }), "a", 0, api.OK, []api.NwPiece{piece(15, "x"), piece(15, "a")}},
		{with(up(1), func(c *api.NwConn) { c.Down = []api.NwPiece{piece(15, "x")} }), "a", 2, api.OK, []api.NwPiece{piece(15, "x"), piece(16, "a")}},
		{with(up(1), func(c *api.NwConn) { c.Down = []api.NwPiece{piece(15, "x")} }), "", 2, api.OK, []api.NwPiece{piece(15, "x")}},
		{full(1), "a", 0, api.ErrDown, nil},
		{full(1), "", 0, api.ErrDown, nil},
		{full(1), "", -1, api.ErrRange, nil},
		{conns()[7], "a", 0, api.ErrDown, nil},
		{conns()[8], "a", 0, api.ErrDown, nil},
		{conns()[8], "a", 100001, api.ErrRange, nil},
		{left(1), "a", 0, api.OK, nil},
		{left(1), "", 0, api.OK, nil},
		{left(1), "a", 100000, api.OK, nil},
		{left(1), "a", -1, api.ErrRange, nil},
		{left(1), "a", 100001, api.ErrRange, nil},
		{left(1), many(maxBytes), 0, api.OK, nil},
		{left(1), many(maxBytes + 1), 0, api.ErrLong, nil},
		{conns()[10], "a", 0, api.OK, nil},
		{conns()[11], "a", 0, api.OK, nil},
		{conns()[0], "a", -1, api.ErrDown, nil},
		{conns()[3], "", 0, api.ErrDown, nil},
	} {
		x.c.Id = 1
		s := state(9, 2, x.c)
		r := check(t, s, put(1, x.b, x.delay))
		want := cloned(s)
		if x.e == api.OK {
			want.Conns[0].Down = x.want
		}
		if r.e != x.e || !same(r.s, want) {
			t.Errorf("%d: Put: %s, want %s", i, short(r), short(want))
		}
		checkError(t, s, put(2, x.b, x.delay), api.ErrNone)
	}
}

func TestPutOfTooManyBytes(t *testing.T) { // P12.5
	for _, n := range []int{0, 1, 2, maxBytes / 2, maxBytes - 1, maxBytes} {
		for _, k := range []int{0, min(1, n), n / 2, n} {
			c := with(up(1), func(c *api.NwConn) {
				c.Out = []byte(many(n - k))
				if k > 0 {
					c.Down = []api.NwPiece{piece(9, many(k))}
				}
			})
			checkOnlyError(t, state(9, 2, c), put(1, many(maxBytes-n), 0), api.OK)
			checkOnlyError(t, state(9, 2, c), put(1, many(maxBytes-n+1), 0), api.ErrLong)
			checkOnlyError(t, state(9, 2, c), put(1, many(maxBytes-n+1), -1), api.ErrRange)
		}
	}
	// What the client has written counts nothing, and an end comes before the limit.
	s := state(9, 2, with(up(1), func(c *api.NwConn) { c.In, c.Sent = []byte(many(maxBytes)), maxBytes }))
	checkOnlyError(t, s, put(1, many(maxBytes), 0), api.OK)
	checkOnlyError(t, after(t, s, finish(1, api.NwClose, 0)), put(1, many(maxBytes+1), 0), api.ErrDown)
}

func TestFinish(t *testing.T) { // P12.5
	for i, x := range []struct {
		c     api.NwConn
		how   int
		delay int64
		e     api.Errno
		at    int64
	}{
		{up(1), api.NwClose, 0, api.OK, 14},
		{up(1), api.NwReset, 0, api.OK, 14},
		{up(1), api.NwReset, 3, api.OK, 17},
		{up(1), api.NwClose, 100000, api.OK, 100014},
		{up(1), api.NwClose, -1, api.ErrRange, 0},
		{up(1), api.NwReset, 100001, api.ErrRange, 0},
		{up(1), api.NwOpen, 0, api.ErrArg, 0},
		{up(1), 3, 0, api.ErrArg, 0},
		{up(1), -1, 0, api.ErrArg, 0},
		{up(1), -1, -1, api.ErrRange, 0},
		{with(up(1), func(c *api.NwConn) { c.Backend = 3 }), api.NwReset, 0, api.OK, 9},
		{with(up(1), func(c *api.NwConn) { c.Down = []api.NwPiece{piece(15, "x")} }), api.NwReset, 0, api.OK, 15},
		{with(up(1), func(c *api.NwConn) { c.Down = []api.NwPiece{piece(13, "x"), piece(15, "x")} }), api.NwClose, 2, api.OK, 16},
		{with(up(1), func(c *api.NwConn) { c.Out = []byte("out") }), api.NwReset, 2, api.OK, 16},
		{full(1), api.NwClose, 0, api.ErrDown, 0},
		{full(1), api.NwOpen, 0, api.ErrArg, 0},
		{full(1), api.NwOpen, -1, api.ErrRange, 0},
		{conns()[6], api.NwClose, 0, api.ErrDown, 0},
		{conns()[7], api.NwClose, 0, api.ErrDown, 0},
		{conns()[8], api.NwReset, 0, api.ErrDown, 0},
		{left(1), api.NwClose, 0, api.OK, 0},
		{left(1), api.NwReset, 5, api.OK, 0},
		{left(1), api.NwOpen, 5, api.ErrArg, 0},
		{left(1), 3, 5, api.ErrArg, 0},
		{left(1), api.NwReset, -1, api.ErrRange, 0},
		{conns()[10], api.NwReset, 5, api.OK, 0},
		{conns()[11], api.NwReset, 5, api.OK, 0},
		{conns()[0], api.NwOpen, -1, api.ErrDown, 0},
		{conns()[3], api.NwClose, 0, api.ErrDown, 0},
	} {
		x.c.Id = 1
		s := state(9, 2, x.c)
		r := check(t, s, finish(1, x.how, x.delay))
		want := cloned(s)
		if x.at > 0 {
			want.Conns[0].DownEnd, want.Conns[0].DownAt = x.how, x.at
		}
		if r.e != x.e || !same(r.s, want) {
			t.Errorf("%d: Finish: %s, want %s", i, short(r), short(want))
		}
		checkError(t, s, finish(2, x.how, x.delay), api.ErrNone)
	}
}

func TestBackendAtTheLastTime(t *testing.T) { // P12.5
	for now := int64(maxTime - 9); now <= maxTime; now++ {
		for delay := range int64(6) {
			s := after(t, state(now, 2, up(1)), put(1, "a", delay), finish(1, api.NwReset, 6-delay))
			c := s.Conns[0]
			if at := min(now+5+delay, maxTime); c.Down[0].At != at || c.DownAt != max(at, min(now+11-delay, maxTime)) {
				t.Errorf("Put and Finish at %d with %d: %s", now, delay, short(c))
			}
		}
	}
}

func TestBackendOfAllNetworks(t *testing.T) { // P12.5
	for _, s := range small() {
		for id := int64(-1); id < 17; id++ {
			check(t, s, take(id))
			for _, delay := range []int64{-1, 0, 1, 2, 7, maxDelay, maxDelay + 1} {
				for n := range 4 {
					check(t, s, put(id, many(n), delay))
					check(t, s, finish(id, n, delay))
				}
			}
		}
	}
}

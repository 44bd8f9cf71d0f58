package network_test

import (
	"testing"

	"spillway/api"
	"spillway/network"
)

func TestWrite(t *testing.T) { // P12.4
	for i, x := range []struct {
		c    api.NwConn
		b    string
		n    int64
		e    api.Errno
		want []api.NwPiece
	}{
		{up(1), "", 0, api.OK, nil},
		{up(1), "a", 1, api.OK, []api.NwPiece{piece(14, "a")}},
		{up(1), "abc", 3, api.OK, []api.NwPiece{piece(14, "abc")}},
		{up(1), "abcd", 4, api.OK, []api.NwPiece{piece(14, "abcd")}},
		{up(1), "abcde", 4, api.OK, []api.NwPiece{piece(14, "abcd")}},
		{up(1), many(100), 4, api.OK, []api.NwPiece{piece(14, "abcd")}},
		{full(1), "xyz", 1, api.OK, []api.NwPiece{piece(10, "a"), piece(12, "bc"), piece(14, "x")}},
		{full(1), "", 0, api.OK, []api.NwPiece{piece(10, "a"), piece(12, "bc")}},
		{with(full(1), func(c *api.NwConn) { c.Up[1].At = 15 }), "x", 1, api.OK, []api.NwPiece{piece(10, "a"), piece(15, "bc"), piece(15, "x")}},
		{with(full(1), func(c *api.NwConn) { c.Up[1].At = 14 }), "x", 1, api.OK, []api.NwPiece{piece(10, "a"), piece(14, "bc"), piece(14, "x")}},
		{with(full(1), func(c *api.NwConn) { c.Up[1].Bytes = []byte("bcd") }), "x", 0, api.ErrMore, nil},
		{with(full(1), func(c *api.NwConn) { c.Up[1].Bytes = []byte("bcd") }), "", 0, api.OK, []api.NwPiece{piece(10, "a"), piece(12, "bcd")}},
		{with(full(1), func(c *api.NwConn) { c.Up[1].Bytes = []byte("bcdef") }), "x", 0, api.ErrMore, nil},
		{with(full(1), func(c *api.NwConn) { c.Up[1].Bytes = []byte("bcdef") }), "", 0, api.OK, []api.NwPiece{piece(10, "a"), piece(12, "bcdef")}},
		{with(up(1), func(c *api.NwConn) { c.OutEnd = api.NwReset }), "", 0, network.ErrReset, nil},
		{with(up(1), func(c *api.NwConn) { c.OutEnd = api.NwReset }), "a", 0, network.ErrReset, nil},
		{conns()[8], "a", 0, network.ErrReset, nil},
		{with(up(1), func(c *api.NwConn) { c.OutEnd = api.NwClose }), "a", 1, api.OK, []api.NwPiece{piece(14, "a")}},
		{with(up(1), func(c *api.NwConn) { c.DownEnd, c.DownAt = api.NwReset, 9 }), "a", 1, api.OK, []api.NwPiece{piece(14, "a")}},
		{with(up(1), func(c *api.NwConn) { c.Backend = 3 }), "a", 1, api.OK, []api.NwPiece{piece(9, "a")}},
		{conns()[0], "", 0, api.ErrDown, nil},
		{conns()[3], "", 0, api.ErrDown, nil},
		{left(1), "", 0, api.ErrDown, nil},
		{left(1), "a", 0, api.ErrDown, nil},
	} {
		x.c.Id = 1
		s := cloned(state(9, 2, x.c))
		r := check(t, s, write(1, x.b))
		want := cloned(s)
		if x.e == api.OK {
			want.Conns[0].Up = x.want
			want.Conns[0].Sent += x.n
		}
		if r.n != x.n || r.e != x.e || !same(r.s, want) {
			t.Errorf("%d: Write: %s, want %s", i, short(r), short(want))
		}
	}
}

func TestWindows(t *testing.T) { // P12.4
	for _, window := range []int{1, 2, 3, 7, maxWindow - 1, maxWindow} {
		s := after(t, state(9, 2, up(1)), plan(0, api.NwGood, 1, window))
		for _, n := range []int{1, window - 1, window, window + 1, 2 * window, maxBytes + 1} {
			if r := check(t, s, write(1, many(n))); r.n != int64(min(n, window)) || r.e != api.OK {
				t.Errorf("the window %d: %d bytes of %d, %d", window, r.n, n, r.e)
			}
		}
		u := after(t, s, write(1, many(window)))
		checkError(t, u, write(1, "a"), api.ErrMore)
		checkError(t, u, write(1, ""), api.OK)
		checkError(t, after(t, u, tick(10)), write(1, "a"), api.OK)
	}
}

func TestWriteOfTooManyBytes(t *testing.T) { // P12.4
	for _, x := range []struct {
		arrived, under, n int
		e                 api.Errno
	}{
		{maxBytes - 4, 0, 4, api.OK},
		{maxBytes - 3, 0, 4, api.ErrLong},
		{maxBytes - 3, 0, 3, api.OK},
		{maxBytes - 3, 0, 9, api.ErrLong},
		{maxBytes - 4, 0, 9, api.OK},
		{maxBytes - 2, 2, 1, api.ErrLong},
		{maxBytes - 3, 2, 1, api.OK},
		{maxBytes - 3, 2, 2, api.ErrLong},
		{maxBytes - 4, 4, 1, api.ErrMore},
		{maxBytes, 0, 1, api.ErrLong},
		{maxBytes, 0, 0, api.OK},
	} {
		s := state(9, 2, with(up(1), func(c *api.NwConn) {
			c.Sent = maxBytes
			c.In = []byte(many(x.arrived))
			if x.under > 0 {
				c.Up = []api.NwPiece{piece(9, many(x.under))}
			}
		}))
		checkOnlyError(t, s, write(1, many(x.n)), x.e)
	}
	for n := range 7 {
		for d := range int64(7) {
			s := state(9, 2, with(up(1), func(c *api.NwConn) { c.Sent = maxHandle - d }))
			want := api.OK
			if int64(min(n, 4)) > d {
				want = api.ErrLong
			}
			checkError(t, s, write(1, many(n)), want)
		}
	}
	// Sent counts all bytes that were ever written, and what the client was sent counts nothing.
	s := state(9, 2, with(up(1), func(c *api.NwConn) { c.Out, c.Sent = []byte(many(maxBytes)), 1 }))
	checkOnlyError(t, s, write(1, "abcd"), api.OK)
}

func TestWriteAtTheLastTime(t *testing.T) { // P12.4
	for now := int64(maxTime - 7); now <= maxTime; now++ {
		r := check(t, state(now, 2, up(1)), write(1, "a"))
		if at := r.s.Conns[0].Up[0].At; at != min(now+5, maxTime) {
			t.Errorf("Write at %d: the piece arrives at %d", now, at)
		}
	}
}

func TestOrderOfErrorsOfWrite(t *testing.T) { // P12.4
	for set := range 16 {
		c := with(up(1), func(c *api.NwConn) { c.Sent = maxHandle })
		want := api.ErrLong
		if set&1 == 1 {
			c.Up, want = []api.NwPiece{piece(9, "abcd")}, api.ErrMore
		}
		if set&2 == 2 {
			c.OutEnd, want = api.NwReset, network.ErrReset
		}
		if set&4 == 4 {
			c.Status, c.OutEnd, want = api.NwClosed, api.NwOpen, api.ErrDown
		}
		id := int64(1)
		if set&8 == 8 {
			id, want = 2, api.ErrNone
		}
		checkError(t, state(9, 3, c), write(id, "abc"), want)
	}
}

func TestRead(t *testing.T) { // P12.4
	for i, x := range []struct {
		c    api.NwConn
		most int64
		b    string
		e    api.Errno
		out  string
	}{
		{up(1), 1, "", api.ErrMore, ""},
		{full(1), 1, "l", api.OK, "m"},
		{full(1), 2, "lm", api.OK, ""},
		{full(1), 3, "lm", api.OK, ""},
		{full(1), 1 << 62, "lm", api.OK, ""},
		{full(1), 0, "", api.ErrRange, ""},
		{full(1), -1, "", api.ErrRange, ""},
		{full(1), -1 << 62, "", api.ErrRange, ""},
		{up(1), 0, "", api.ErrRange, ""},
		{conns()[7], 2, "xy", api.OK, "z"},
		{conns()[7], 3, "xyz", api.OK, ""},
		{with(conns()[7], func(c *api.NwConn) { c.Out = nil }), 3, "", network.ErrEnd, ""},
		{with(conns()[7], func(c *api.NwConn) { c.Out = nil }), 0, "", api.ErrRange, ""},
		{conns()[8], 3, "", network.ErrReset, ""},
		{conns()[8], 0, "", api.ErrRange, ""},
		{with(full(1), func(c *api.NwConn) { c.Out = nil }), 3, "", api.ErrMore, ""},
		{conns()[0], 0, "", api.ErrDown, ""},
		{conns()[3], 1, "", api.ErrDown, ""},
		{left(1), 1, "", api.ErrDown, ""},
		{left(1), 0, "", api.ErrDown, ""},
	} {
		x.c.Id = 1
		s := state(9, 2, x.c)
		r := check(t, s, read(1, x.most))
		want := cloned(s)
		if x.e == api.OK {
			want.Conns[0].Out = []byte(x.out)
		}
		if string(r.b) != x.b || r.e != x.e || !same(r.s, want) {
			t.Errorf("%d: Read: %s, want %s", i, short(r), short(want))
		}
		checkError(t, s, read(2, x.most), api.ErrNone)
	}
}

func TestNumbersOfErrors(t *testing.T) { // the chapter's section Errors
	if network.ErrReset != 120 || network.ErrEnd != 121 {
		t.Errorf("ErrReset is %d, ErrEnd %d", network.ErrReset, network.ErrEnd)
	}
}

func TestReadBehindEnds(t *testing.T) { // P12.4
	s := after(t, state(9, 2, up(1)), put(1, "abc", 0), finish(1, api.NwClose, 0), tick(14), read(1, 2))
	checkError(t, s, write(1, "x"), api.OK)
	s = after(t, s, read(1, 5))
	for range 3 {
		checkError(t, s, read(1, 1), network.ErrEnd)
		checkError(t, s, write(1, "x"), api.OK)
		s = after(t, s, tick(s.Now+1))
	}
	s = after(t, state(9, 2, up(1)), put(1, "abc", 0), finish(1, api.NwReset, 1), tick(14), read(1, 2))
	checkError(t, s, write(1, "x"), api.OK)
	s = after(t, s, tick(15))
	for range 3 {
		checkError(t, s, read(1, 1), network.ErrReset)
		checkError(t, s, write(1, "x"), network.ErrReset)
		checkError(t, s, write(1, ""), network.ErrReset)
		s = after(t, s, tick(s.Now+1))
	}
}

func TestClientOfAllNetworks(t *testing.T) { // P12.2, P12.4
	for _, s := range small() {
		for id := int64(-1); id < 17; id++ {
			check(t, s, hangUp(id))
			for n := range 7 {
				check(t, s, write(id, many(n)))
				check(t, s, read(id, int64(n-1)))
			}
		}
	}
}

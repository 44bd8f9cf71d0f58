package network_test

import (
	"slices"
	"testing"

	"spillway/api"
)

// events are events by their connections and kinds.
func events(l ...int64) []api.NwEvent {
	var all []api.NwEvent
	for i := 0; i < len(l); i += 2 {
		all = append(all, api.NwEvent{Conn: l[i], Kind: int(l[i+1])})
	}
	return all
}

func TestExamples(t *testing.T) { // P12.1 to P12.6
	s := api.NwState{Next: 1, Plans: []api.NwPlan{{Fail: api.NwGood, Delay: 5, Window: 4}}}
	for i, x := range []struct {
		c    call
		want result
	}{
		{dial(0), result{n: 1}},
		{write(1, "x"), result{e: api.ErrDown}},
		{tick(4), result{}},
		{tick(5), result{events: events(1, api.NwDialled)}},
		{write(1, "abcdef"), result{n: 4}},
		{write(1, "ef"), result{e: api.ErrMore}},
		{tick(10), result{events: events(1, api.NwArrived)}},
		{take(1), result{b: []byte("abcd"), end: api.NwOpen}},
		{write(1, "ef"), result{n: 2}},
		{hangUp(1), result{}},
		{put(1, "x", 0), result{}},
		{tick(15), result{events: events(1, api.NwArrived)}},
		{take(1), result{b: []byte("ef"), end: api.NwClose}},
		{dial(0), result{n: 2}},
		{tick(20), result{events: events(2, api.NwDialled)}},
		{put(2, "hello", 3), result{}},
		{finish(2, api.NwClose, 0), result{}},
		{tick(28), result{events: events(2, api.NwDelivered)}},
		{read(2, 3), result{b: []byte("hel")}},
		{read(2, 9), result{b: []byte("lo")}},
		{read(2, 9), result{e: 121}},
		{count(0), result{count: api.NwCount{Up: 1, Closed: 1}}},
	} {
		r := check(t, s, x.c)
		s, x.want.s = r.s, r.s
		if !sameResult(r, x.want) {
			t.Errorf("%d: %s: %s, want %s", i, short(x.c), short(r), short(x.want))
		}
	}
}

func TestDue(t *testing.T) { // P12.3
	for i, x := range []struct {
		l    []api.NwConn
		want int64
		e    api.Errno
	}{
		{nil, 0, api.ErrNone},
		{[]api.NwConn{up(1)}, 0, api.ErrNone},
		{[]api.NwConn{{Id: 1, Ready: 10}}, 10, api.OK},
		{[]api.NwConn{{Id: 1, Ready: 9}}, 9, api.OK},
		{[]api.NwConn{{Id: 1, Ready: 3}}, 3, api.OK},
		{[]api.NwConn{{Id: 1, Ready: 0}}, 0, api.OK},
		{[]api.NwConn{{Id: 1, Ready: maxTime}}, maxTime, api.OK},
		{[]api.NwConn{{Id: 1, Ready: never}}, 0, api.ErrNone},
		{[]api.NwConn{{Id: 1, Ready: never}, {Id: 2, Ready: 12}, {Id: 3, Ready: 11}, {Id: 4, Ready: 13}}, 11, api.OK},
		{[]api.NwConn{{Id: 1, Status: api.NwFailed, Ready: 10}, {Id: 2, Status: api.NwClosed, Ready: 10}, {Id: 3, Status: api.NwUp, Ready: 10}}, 0, api.ErrNone},
		{[]api.NwConn{full(1)}, 10, api.OK},
		{[]api.NwConn{with(full(1), func(c *api.NwConn) { c.Up = nil })}, 11, api.OK},
		{[]api.NwConn{with(full(1), func(c *api.NwConn) { c.Up, c.Down = nil, nil })}, 16, api.OK},
		{[]api.NwConn{with(full(1), func(c *api.NwConn) { c.Up, c.Down, c.DownEnd, c.DownAt = nil, nil, api.NwOpen, 0 })}, 0, api.ErrNone},
		{[]api.NwConn{with(up(1), func(c *api.NwConn) { c.DownEnd, c.DownAt = api.NwReset, 2 })}, 2, api.OK},
		{[]api.NwConn{with(up(1), func(c *api.NwConn) { c.OutEnd, c.Out = api.NwClose, []byte("x") })}, 0, api.ErrNone},
		{[]api.NwConn{left(1)}, 9, api.OK},
		{[]api.NwConn{with(left(1), func(c *api.NwConn) { c.Up = nil })}, 12, api.OK},
		{[]api.NwConn{with(left(1), func(c *api.NwConn) { c.Up, c.UpEnd, c.UpAt = nil, api.NwOpen, 0 })}, 0, api.ErrNone},
		{[]api.NwConn{left(1), {Id: 2, Ready: 8}, full(3)}, 8, api.OK},
		{conns(), 9, api.OK},
	} {
		r := check(t, state(9, 15, x.l...), call{name: "due"})
		if r.n != x.want || r.e != x.e {
			t.Errorf("%d: Due: %d, %d, want %d, %d", i, r.n, r.e, x.want, x.e)
		}
	}
}

func TestTickOfDials(t *testing.T) { // P12.3
	var l []api.NwConn
	for i := range 5 {
		l = append(l, api.NwConn{Id: int64(i + 1), Backend: i, Ready: 12})
	}
	s := state(9, 6, l...)
	for to, want := range map[int64][]api.NwEvent{
		9: nil, 10: nil, 11: nil,
		12:      events(1, api.NwDialled, 2, api.NwRejected, 3, api.NwRejected, 4, api.NwDialled, 5, api.NwDialled),
		13:      events(1, api.NwDialled, 2, api.NwRejected, 3, api.NwRejected, 4, api.NwDialled, 5, api.NwDialled),
		maxTime: events(1, api.NwDialled, 2, api.NwRejected, 3, api.NwRejected, 4, api.NwDialled, 5, api.NwDialled),
	} {
		r := check(t, s, tick(to))
		after := cloned(s)
		after.Now = to
		for i := range after.Conns {
			if to >= 12 {
				after.Conns[i].Status = []int{api.NwUp, api.NwFailed, api.NwFailed, api.NwUp, api.NwUp}[i]
			}
		}
		if !slices.Equal(r.events, want) || !same(r.s, after) || r.e != api.OK {
			t.Errorf("Tick to %d: %s", to, short(r))
		}
	}
	for _, status := range []int{api.NwUp, api.NwFailed, api.NwClosed} {
		s := state(9, 3, api.NwConn{Id: 2, Status: status, Ready: 9})
		if r := check(t, s, tick(9)); len(r.events) > 0 || r.s.Conns[0].Status != status {
			t.Errorf("a dial of a connection with the status %d ends: %s", status, short(r))
		}
	}
	s = state(9, 3, api.NwConn{Id: 2, Ready: never})
	if r := check(t, s, tick(maxTime)); len(r.events) > 0 || r.s.Conns[0].Status != api.NwDialling {
		t.Errorf("a dial that never ends has ended: %s", short(r))
	}
}

func TestTickOfPieces(t *testing.T) { // P12.3
	for to := int64(9); to < 20; to++ {
		c, both := full(3), []api.NwEvent(nil)
		switch {
		case to >= 12:
			c.Up, c.In = nil, []byte("defabc")
		case to >= 10:
			c.Up, c.In = c.Up[1:], []byte("defa")
		}
		switch {
		case to >= 14:
			c.Down, c.Out = nil, []byte("lmghijk")
		case to >= 11:
			c.Down, c.Out = c.Down[2:], []byte("lmghij")
		}
		if to >= 16 {
			c.DownEnd, c.DownAt, c.OutEnd = api.NwOpen, 0, api.NwClose
		}
		if to >= 10 {
			both = append(both, api.NwEvent{Kind: api.NwArrived, Conn: 3})
		}
		if to >= 11 {
			both = append(both, api.NwEvent{Kind: api.NwDelivered, Conn: 3})
		}
		r := check(t, state(9, 4, full(3)), tick(to))
		if r.e != api.OK || !same(r.s, state(to, 4, c)) || !slices.Equal(r.events, both) {
			t.Errorf("Tick to %d: %s, want %s", to, short(r), short(c))
		}
	}
}

func TestTickOfEnds(t *testing.T) { // P12.3
	for to := int64(9); to < 18; to++ {
		// An end arrives behind the pieces, also at the same time; a reset takes away what is there.
		r := check(t, state(9, 2, left(1)), tick(to))
		if c := r.s.Conns[0]; (c.InEnd == api.NwClose) != (to >= 12) || string(c.In) != "qrstno"+map[bool]string{true: "p"}[to >= 12] {
			t.Errorf("Tick to %d: %s", to, short(r))
		}
		r = check(t, state(9, 2, with(full(1), func(c *api.NwConn) { c.DownEnd = api.NwReset })), tick(to))
		if c := r.s.Conns[0]; (c.OutEnd == api.NwReset) != (to >= 16) || (len(c.Out) == 0) != (to >= 16) {
			t.Errorf("Tick to %d: %s", to, short(r))
		}
	}
	// An end alone is something that arrives, and nothing is an event twice.
	s := state(9, 3, with(up(1), func(c *api.NwConn) { c.DownEnd, c.DownAt = api.NwReset, 9 }), with(up(2), func(c *api.NwConn) { c.Status, c.UpEnd, c.UpAt = api.NwClosed, api.NwClose, 9 }))
	r := check(t, s, tick(9))
	if !slices.Equal(r.events, events(1, api.NwDelivered, 2, api.NwArrived)) {
		t.Errorf("Tick: %s", short(r))
	}
	if r := check(t, r.s, tick(9)); len(r.events) > 0 {
		t.Errorf("Tick again: %s", short(r))
	}
	// Without bytes that are on the way, an end that has arrived, or what has arrived before, is no event.
	s = state(9, 12, conns()[7], conns()[10])
	if r := check(t, s, tick(maxTime)); len(r.events) > 0 {
		t.Errorf("Tick: %s", short(r))
	}
}

func TestEventsAreOrdered(t *testing.T) { // P12.3: by connections, for each in the order of the chapter
	s := state(9, 15, conns()...)
	r := check(t, s, tick(maxTime))
	want := events(
		1, api.NwDialled, 2, api.NwRejected, 6, api.NwArrived, 6, api.NwDelivered, 7, api.NwArrived, 7, api.NwDelivered,
		9, api.NwArrived, 10, api.NwArrived, 13, api.NwArrived, 13, api.NwDelivered, 14, api.NwArrived, 14, api.NwDelivered,
	)
	if !slices.Equal(r.events, want) {
		t.Errorf("Tick: %v, want %v", r.events, want)
	}
}

func TestErrorsOfTick(t *testing.T) { // P12.3
	s := state(9, 15, conns()...)
	for _, to := range []int64{-1 << 62, -1, 0, 8, never, never + 1, 1 << 62} {
		checkError(t, s, tick(to), api.ErrRange)
	}
	for _, to := range []int64{9, 10, maxTime - 1, maxTime} {
		checkError(t, s, tick(to), api.OK)
	}
	checkError(t, state(maxTime, 1), tick(maxTime), api.OK)
	checkError(t, state(0, 1), tick(0), api.OK)
}

func TestTicksOfAllNetworks(t *testing.T) { // P12.3
	for _, s := range valid() {
		for to := s.Now; to < s.Now+20; to++ {
			check(t, s, tick(to))
		}
		check(t, s, tick(100008))
		check(t, s, tick(100009))
		check(t, s, tick(maxTime))
	}
}

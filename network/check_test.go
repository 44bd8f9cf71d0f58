package network_test

import (
	"math"
	"slices"
	"testing"

	"spillway/api"
	"spillway/network"
)

func TestNew(t *testing.T) { // P12.1
	good := api.NwPlan{Window: 1}
	for i, c := range []struct {
		plans []api.NwPlan
		want  api.Errno
	}{
		{nil, api.OK},
		{[]api.NwPlan{good}, api.OK},
		{plans(), api.OK},
		{[]api.NwPlan{{Fail: api.NwSilent, Delay: 100000, Window: 65536}}, api.OK},
		{slices.Repeat([]api.NwPlan{good}, 16), api.OK},
		{slices.Repeat([]api.NwPlan{good}, 17), api.ErrLong},
		{make([]api.NwPlan, 17), api.ErrLong},
		{make([]api.NwPlan, 16), api.ErrRange},
		{[]api.NwPlan{{}}, api.ErrRange},
		{[]api.NwPlan{{Fail: -1, Window: 1}}, api.ErrRange},
		{[]api.NwPlan{{Fail: 3, Window: 1}}, api.ErrRange},
		{[]api.NwPlan{{Delay: -1, Window: 1}}, api.ErrRange},
		{[]api.NwPlan{{Delay: 100001, Window: 1}}, api.ErrRange},
		{[]api.NwPlan{{Window: 0}}, api.ErrRange},
		{[]api.NwPlan{{Window: 65537}}, api.ErrRange},
		{[]api.NwPlan{good, good, {Window: -1}}, api.ErrRange},
		{append(slices.Repeat([]api.NwPlan{good}, 15), api.NwPlan{Fail: 3, Window: 1}), api.ErrRange},
	} {
		want := api.NwState{}
		if c.want == api.OK {
			want = api.NwState{Now: 0, Next: 1, Plans: c.plans}
		}
		if s, e := network.New(c.plans); e != c.want || !same(s, want) {
			t.Errorf("%d: New: %v, %d, want %v, %d", i, s, e, want, c.want)
		}
	}
}

// checkCheck fails if Check is wrong about a network.
func checkCheck(t *testing.T, s api.NwState) api.Errno {
	t.Helper()
	e, want := network.Check(s), faultOf(s)
	if e != want {
		t.Fatalf("Check(%s): %d, want %d", short(s), e, want)
	}
	return e
}

func TestCheckOfValidNetworks(t *testing.T) { // P12.1
	for _, s := range valid() {
		if e := checkCheck(t, s); e != api.OK {
			t.Errorf("Check(%s): %d", short(s), e)
		}
	}
}

// places are where the numbers of a network are, as functions that set them.
func places(s api.NwState) []func(s *api.NwState, n int64) {
	l := []func(s *api.NwState, n int64){
		func(s *api.NwState, n int64) { s.Now = n },
		func(s *api.NwState, n int64) { s.Next = n },
	}
	for i := range s.Plans {
		l = append(l,
			func(s *api.NwState, n int64) { s.Plans[i].Fail = int(n) },
			func(s *api.NwState, n int64) { s.Plans[i].Delay = n },
			func(s *api.NwState, n int64) { s.Plans[i].Window = int(n) })
	}
	for i, c := range s.Conns {
		for _, set := range placesOf(c) {
			l = append(l, func(s *api.NwState, n int64) { set(&s.Conns[i], n) })
		}
	}
	return l
}

// placesOf are where the numbers of a connection are.
func placesOf(c api.NwConn) []func(c *api.NwConn, n int64) {
	l := []func(c *api.NwConn, n int64){
		func(c *api.NwConn, n int64) { c.Id = n },
		func(c *api.NwConn, n int64) { c.Backend = int(n) },
		func(c *api.NwConn, n int64) { c.Status = int(n) },
		func(c *api.NwConn, n int64) { c.Born = n },
		func(c *api.NwConn, n int64) { c.Ready = n },
		func(c *api.NwConn, n int64) { c.Sent = n },
		func(c *api.NwConn, n int64) { c.UpEnd = int(n) },
		func(c *api.NwConn, n int64) { c.DownEnd = int(n) },
		func(c *api.NwConn, n int64) { c.UpAt = n },
		func(c *api.NwConn, n int64) { c.DownAt = n },
		func(c *api.NwConn, n int64) { c.InEnd = int(n) },
		func(c *api.NwConn, n int64) { c.OutEnd = int(n) },
		func(c *api.NwConn, n int64) { c.In = []byte(many(int(min(max(n, 0), 99)))) },
		func(c *api.NwConn, n int64) { c.Out = []byte(many(int(min(max(n, 0), 99)))) },
	}
	for i := range c.Up {
		l = append(l,
			func(c *api.NwConn, n int64) { c.Up[i].At = n },
			func(c *api.NwConn, n int64) { c.Up[i].Bytes = []byte(many(int(min(max(n, 0), 99)))) })
	}
	for i := range c.Down {
		l = append(l,
			func(c *api.NwConn, n int64) { c.Down[i].At = n },
			func(c *api.NwConn, n int64) { c.Down[i].Bytes = []byte(many(int(min(max(n, 0), 99)))) })
	}
	return l
}

// edges are numbers that are at the edge of something.
var edges = []int64{
	math.MinInt64, -1 << 32, -1, 0, 1, 2, 3, 4, 5, 6, 7, 8, 9, 10, 11, 12, 13, 14, 15, 16, 17,
	maxWindow, maxWindow + 1, maxDelay, maxDelay + 1, maxTime, never, never + 1, maxHandle, maxHandle + 1, math.MaxInt64,
}

func TestCheckOfChangedNetworks(t *testing.T) { // P12.1
	found := map[api.Errno]int{}
	for _, s := range small() {
		for _, set := range places(s) {
			for _, n := range edges {
				u := cloned(s)
				set(&u, n)
				found[checkCheck(t, u)]++
			}
		}
	}
	for _, e := range []api.Errno{api.OK, api.ErrRange, api.ErrForm} {
		if found[e] < 100 {
			t.Errorf("%d networks with the error %d", found[e], e)
		}
	}
}

func TestCheckOfNetworksChangedTwice(t *testing.T) { // P12.1
	for _, c := range conns() {
		s := state(9, c.Id+1, c)
		l := places(s)
		for i, set := range l {
			for _, n := range []int64{-1, 0, 1, 2, 3, 8, 9, 10, 12, 13, 17, never} {
				once := cloned(s)
				set(&once, n)
				for _, other := range l[:i] {
					for _, m := range []int64{0, 1, 2, 9, 12} {
						both := cloned(once)
						other(&both, m)
						checkCheck(t, both)
					}
				}
			}
		}
	}
}

// side is the parts of a direction.
type side struct {
	pieces  []api.NwPiece
	arrived []byte
	end     int
	at      int64
	ended   int
}

// sides are all directions with small parts, for a connection that is born at 5.
func sides() []side {
	var l []side
	for _, pieces := range [][]api.NwPiece{nil, {piece(5, "a")}, {piece(4, "a")}, {piece(5, "")}, {piece(6, "a"), piece(6, "b")}, {piece(6, "a"), piece(5, "b")}, {piece(5, "a"), piece(7, "")}} {
		for _, arrived := range []string{"", "c"} {
			for end := range 3 {
				for _, at := range []int64{0, 4, 5, 6, 7} {
					for ended := range 3 {
						l = append(l, side{pieces, []byte(arrived), end, at, ended})
					}
				}
			}
		}
	}
	return l
}

func TestCheckOfAllSmallConnections(t *testing.T) { // P12.1
	found := map[api.Errno]int{}
	some := []side{
		{},
		{arrived: []byte("d")},
		{pieces: []api.NwPiece{piece(5, "e")}, end: api.NwClose, at: 5},
		{arrived: []byte("f"), ended: api.NwClose},
		{end: api.NwReset, at: 9},
		{ended: api.NwReset},
	}
	try := func(status int, sent int64, u, d side) {
		s := state(5, 2, api.NwConn{
			Id: 1, Status: status, Born: 5, Ready: 5, Sent: sent,
			Up: u.pieces, In: u.arrived, UpEnd: u.end, UpAt: u.at, InEnd: u.ended,
			Down: d.pieces, Out: d.arrived, DownEnd: d.end, DownAt: d.at, OutEnd: d.ended,
		})
		found[checkCheck(t, s)]++
	}
	for _, x := range sides() {
		for _, y := range some {
			for status := range 4 {
				for sent := range int64(4) {
					try(status, sent, x, y)
					try(status, sent, y, x)
				}
			}
		}
	}
	if len(found) != 2 || found[api.OK] < 100 {
		t.Errorf("errors of small connections: %v", found)
	}
}

func TestCheckOfOtherOrders(t *testing.T) { // P12.1: numbers are ascending, and none is there twice
	s := state(9, 15, conns()...)
	for i := range s.Conns {
		for k := range s.Conns {
			u := cloned(s)
			u.Conns[i], u.Conns[k] = u.Conns[k], u.Conns[i]
			checkCheck(t, u)
			u = cloned(s)
			u.Conns = slices.Insert(u.Conns, k, u.Conns[i])
			if e := checkCheck(t, u); e != api.ErrForm {
				t.Errorf("%d again at %d: %d", i, k, e)
			}
		}
		u := cloned(s)
		u.Conns = slices.Delete(u.Conns, i, i+1)
		if e := checkCheck(t, u); e != api.OK {
			t.Errorf("without %d: %d", i, e)
		}
	}
}

func TestCheckOfParts(t *testing.T) { // P12.1
	for i, c := range []struct {
		change func(c *api.NwConn)
		want   api.Errno
	}{
		{func(c *api.NwConn) {}, api.OK},
		{func(c *api.NwConn) { c.Ready = 0 }, api.OK},
		{func(c *api.NwConn) { c.Ready = never }, api.OK},
		{func(c *api.NwConn) { c.Ready = never + 1 }, api.ErrRange},
		{func(c *api.NwConn) { c.Born = 9 }, api.OK},
		{func(c *api.NwConn) { c.Born = 10 }, api.ErrForm},
		{func(c *api.NwConn) { c.Sent = 6 }, api.OK},
		{func(c *api.NwConn) { c.Sent = 5 }, api.ErrForm},
		{func(c *api.NwConn) { c.Sent = maxHandle }, api.OK},
		{func(c *api.NwConn) { c.Sent = maxHandle + 1 }, api.ErrRange},
		{func(c *api.NwConn) { c.Up[1].At = 10 }, api.OK},
		{func(c *api.NwConn) { c.Up[1].At = 9 }, api.ErrForm},
		{func(c *api.NwConn) { c.Up[0].At = 2 }, api.OK},
		{func(c *api.NwConn) { c.Up[0].At = 1 }, api.ErrForm},
		{func(c *api.NwConn) { c.Up[1].Bytes = nil }, api.ErrForm},
		{func(c *api.NwConn) { c.DownAt = 14 }, api.OK},
		{func(c *api.NwConn) { c.DownAt = 13 }, api.ErrForm},
		{func(c *api.NwConn) { c.Down, c.DownAt = nil, 2 }, api.OK},
		{func(c *api.NwConn) { c.Down, c.DownAt = nil, 1 }, api.ErrForm},
		{func(c *api.NwConn) { c.DownEnd, c.DownAt = api.NwOpen, 0 }, api.OK},
		{func(c *api.NwConn) { c.DownEnd = api.NwOpen }, api.ErrForm},
		{func(c *api.NwConn) { c.DownEnd, c.DownAt = api.NwOpen, -1 }, api.ErrRange},
		{func(c *api.NwConn) { c.UpAt = 12 }, api.ErrForm},
		{func(c *api.NwConn) { c.UpAt = never }, api.ErrRange},
		{func(c *api.NwConn) { c.OutEnd = api.NwClose }, api.ErrForm},
		{func(c *api.NwConn) { c.Down, c.OutEnd = nil, api.NwClose }, api.ErrForm},
		{func(c *api.NwConn) { c.DownEnd, c.DownAt, c.OutEnd = api.NwOpen, 0, api.NwClose }, api.ErrForm},
		{func(c *api.NwConn) { c.Down, c.DownEnd, c.DownAt, c.OutEnd = nil, api.NwOpen, 0, api.NwClose }, api.OK},
		{func(c *api.NwConn) { c.Down, c.DownEnd, c.DownAt, c.OutEnd = nil, api.NwOpen, 0, api.NwReset }, api.ErrForm},
		{func(c *api.NwConn) {
			c.Down, c.DownEnd, c.DownAt, c.OutEnd, c.Out = nil, api.NwOpen, 0, api.NwReset, nil
		}, api.OK},
		{func(c *api.NwConn) { c.UpEnd, c.UpAt = api.NwClose, 12 }, api.ErrForm},
		{func(c *api.NwConn) { c.Up, c.InEnd = nil, api.NwClose }, api.ErrForm},
		{func(c *api.NwConn) { c.Status = api.NwClosed }, api.ErrForm},
		{func(c *api.NwConn) { c.Status = api.NwFailed }, api.ErrForm},
		{func(c *api.NwConn) { c.Status = api.NwDialling }, api.ErrForm},
	} {
		s := cloned(state(9, 3, full(2)))
		c.change(&s.Conns[0])
		if e := checkCheck(t, s); e != c.want {
			t.Errorf("%d: Check: %d, want %d", i, e, c.want)
		}
	}
	for i, c := range []struct {
		change func(c *api.NwConn)
		want   api.Errno
	}{
		{func(c *api.NwConn) {}, api.OK},
		{func(c *api.NwConn) { c.UpEnd, c.UpAt = api.NwOpen, 0 }, api.OK},
		{func(c *api.NwConn) { c.UpAt = 11 }, api.ErrForm},
		{func(c *api.NwConn) { c.UpEnd = api.NwReset }, api.ErrForm},
		{func(c *api.NwConn) { c.InEnd = api.NwClose }, api.ErrForm},
		{func(c *api.NwConn) { c.Up, c.UpEnd, c.UpAt, c.InEnd = nil, 0, 0, api.NwClose }, api.OK},
		{func(c *api.NwConn) { c.Up, c.UpEnd, c.UpAt, c.InEnd = nil, 0, 0, api.NwReset }, api.ErrForm},
		{func(c *api.NwConn) { c.Out = []byte("x") }, api.ErrForm},
		{func(c *api.NwConn) { c.Down = []api.NwPiece{piece(9, "x")} }, api.ErrForm},
		{func(c *api.NwConn) { c.DownEnd, c.DownAt = api.NwClose, 9 }, api.ErrForm},
		{func(c *api.NwConn) { c.OutEnd = api.NwReset }, api.ErrForm},
		{func(c *api.NwConn) { c.Status = api.NwUp }, api.ErrForm},
		{func(c *api.NwConn) { c.Status, c.UpEnd, c.UpAt = api.NwUp, 0, 0 }, api.OK},
	} {
		s := cloned(state(9, 3, left(2)))
		c.change(&s.Conns[0])
		if e := checkCheck(t, s); e != c.want {
			t.Errorf("%d: Check of a closed one: %d, want %d", i, e, c.want)
		}
	}
}

func TestCheckOfMany(t *testing.T) { // P12.1
	wide := func(n int) api.NwState { return api.NwState{Next: 1, Plans: slices.Repeat(plans()[:1], n)} }
	far := crowd(501)
	far.Now = -1
	for i, c := range []struct {
		s    api.NwState
		want api.Errno
	}{
		{wide(16), api.OK},
		{wide(17), api.ErrLong},
		{api.NwState{Plans: make([]api.NwPlan, 17)}, api.ErrLong},
		{crowd(500), api.OK},
		{crowd(501), api.ErrLong},
		{far, api.ErrLong},
		{api.NwState{}, api.ErrRange},
		{api.NwState{Next: 1}, api.OK},
		{api.NwState{Next: 2, Conns: []api.NwConn{{Id: 1}}}, api.ErrRange},
	} {
		if e := checkCheck(t, c.s); e != c.want {
			t.Errorf("%d: Check: %d, want %d", i, e, c.want)
		}
	}
}

func TestCheckOfManyBytes(t *testing.T) { // P12.1: what has arrived, and all pieces together
	for _, n := range []int{maxBytes - 1, maxBytes, maxBytes + 1} {
		want := api.OK
		if n > maxBytes {
			want = api.ErrLong
		}
		for _, k := range []int{0, 1, n / 2, n - 3} {
			arrived, pieces := []byte(many(k)), []api.NwPiece{piece(9, "a"), piece(9, many(n-k-2)), piece(9, "b")}
			for i, c := range []api.NwConn{
				with(up(1), func(c *api.NwConn) { c.In, c.Up, c.Sent = arrived, pieces, int64(n) }),
				with(up(1), func(c *api.NwConn) { c.Out, c.Down = arrived, pieces }),
			} {
				if e := checkCheck(t, state(9, 2, c)); e != want {
					t.Errorf("%d, %d, %d: Check: %d, want %d", n, k, i, e, want)
				}
			}
		}
		for i, c := range []api.NwConn{
			with(up(1), func(c *api.NwConn) { c.In, c.Sent = []byte(many(n)), maxHandle }),
			with(up(1), func(c *api.NwConn) { c.Up, c.Sent = []api.NwPiece{piece(9, many(n))}, maxHandle }),
			with(up(1), func(c *api.NwConn) { c.Out = []byte(many(n)) }),
			with(up(1), func(c *api.NwConn) { c.Down = []api.NwPiece{piece(9, many(n))} }),
		} {
			if e := checkCheck(t, state(9, 2, c)); e != want {
				t.Errorf("%d, %d: Check: %d, want %d", n, i, e, want)
			}
		}
	}
	// The directions, and the connections, are not counted together.
	c := with(up(1), func(c *api.NwConn) { c.In, c.Out, c.Sent = []byte(many(maxBytes)), []byte(many(maxBytes)), maxBytes })
	if e := checkCheck(t, state(9, 3, c, with(c, func(c *api.NwConn) { c.Id = 2 }))); e != api.OK {
		t.Errorf("Check: %d", e)
	}
}

func TestOrderOfErrorsOfCheck(t *testing.T) { // P12.1
	faults := []struct {
		change func(s *api.NwState)
		e      api.Errno
	}{
		{func(s *api.NwState) { s.Plans = slices.Repeat(s.Plans[:1], 17) }, api.ErrLong},
		{func(s *api.NwState) { s.Conns = slices.Repeat(s.Conns, 40) }, api.ErrLong},
		{func(s *api.NwState) { s.Conns[5].Out = make([]byte, maxBytes) }, api.ErrLong},
		{func(s *api.NwState) { s.Now = -1 }, api.ErrRange},
		{func(s *api.NwState) { s.Next = 14 }, api.ErrRange},
		{func(s *api.NwState) { s.Conns[6].Up[0].At = -1 }, api.ErrRange},
		{func(s *api.NwState) { s.Conns[6].DownEnd = 3 }, api.ErrRange},
		{func(s *api.NwState) { s.Conns[4].Born = 10 }, api.ErrForm},
		{func(s *api.NwState) { s.Conns[0].Sent = 1 }, api.ErrForm},
		{func(s *api.NwState) { s.Conns[1].Id = 1 }, api.ErrForm},
	}
	for set := range 1 << len(faults) {
		s, want := cloned(state(9, 15, conns()...)), api.OK
		for i := len(faults) - 1; i >= 0; i-- {
			if set>>i&1 == 1 {
				faults[i].change(&s)
				want = faults[i].e
			}
		}
		if e := network.Check(s); e != want {
			t.Errorf("%b: Check: %d, want %d", set, e, want)
		}
	}
}

func TestErrorOfCheckIsFirst(t *testing.T) { // P12.1 to P12.6
	born := state(9, 15, conns()...)
	born.Now = 1
	for _, s := range []api.NwState{
		{},
		{Plans: make([]api.NwPlan, 17)},
		crowd(501),
		state(-1, 15, conns()...),
		state(9, 14, conns()...),
		state(9, 15, append(conns(), up(3))...),
		born,
	} {
		want := faultOf(s)
		if want == api.OK {
			t.Fatalf("%s is valid", short(s))
		}
		for _, c := range someCalls() {
			checkError(t, s, c, want)
		}
	}
}

func TestPlan(t *testing.T) { // P12.1
	for i, c := range []struct {
		backend int64
		p       api.NwPlan
		want    api.Errno
	}{
		{0, api.NwPlan{Window: 1}, api.OK},
		{4, api.NwPlan{Fail: api.NwSilent, Delay: 100000, Window: 65536}, api.OK},
		{1, api.NwPlan{Fail: api.NwRefused, Delay: 1, Window: 2}, api.OK},
		{-1, api.NwPlan{Window: 1}, api.ErrNone},
		{5, api.NwPlan{Window: 1}, api.ErrNone},
		{5, api.NwPlan{}, api.ErrNone},
		{0, api.NwPlan{}, api.ErrRange},
		{0, api.NwPlan{Window: 65537}, api.ErrRange},
		{0, api.NwPlan{Window: 1, Delay: -1}, api.ErrRange},
		{0, api.NwPlan{Window: 1, Delay: 100001}, api.ErrRange},
		{0, api.NwPlan{Window: 1, Fail: -1}, api.ErrRange},
		{0, api.NwPlan{Window: 1, Fail: 3}, api.ErrRange},
	} {
		s := state(9, 15, conns()...)
		r := check(t, s, call{name: "plan", n: c.backend, plan: c.p})
		want := cloned(s)
		if c.want == api.OK {
			want.Plans[c.backend] = c.p
		}
		if r.e != c.want || !same(r.s, want) {
			t.Errorf("%d: Plan: %s, %d, want %d", i, short(r.s), r.e, c.want)
		}
	}
}

func TestPlansFromNowOn(t *testing.T) { // P12.1
	s := after(t, state(0, 1), dial(0), dial(1), dial(0), tick(1), plan(1, api.NwGood, 9, 1), tick(2))
	checkConn(t, s, api.NwConn{Id: 2, Backend: 1, Status: api.NwUp, Born: 0, Ready: 2})
	s = after(t, s, plan(0, api.NwSilent, 9, 1), tick(5))
	checkConn(t, s, api.NwConn{Id: 1, Status: api.NwFailed, Born: 0, Ready: 5})
	s = after(t, s, dial(0), plan(0, api.NwGood, 1, 2), dial(0), tick(6))
	checkConn(t, s, api.NwConn{Id: 4, Status: api.NwDialling, Born: 5, Ready: never})
	checkConn(t, s, api.NwConn{Id: 5, Status: api.NwUp, Born: 5, Ready: 6})
	// What is on the way stays; the window may become smaller than what is in it, and the delay too, but nothing overtakes.
	s = after(t, s, plan(0, api.NwGood, 10, 3), write(5, "abc"), put(5, "x", 0), plan(0, api.NwRefused, 2, 2))
	checkError(t, s, write(5, "d"), api.ErrMore)
	s = after(t, s, write(5, ""), plan(0, api.NwSilent, 2, 5), write(5, "def"), put(5, "y", 1), finish(5, api.NwReset, 2))
	checkConn(t, s, api.NwConn{
		Id: 5, Status: api.NwUp, Born: 5, Ready: 6, Sent: 5,
		Up:   []api.NwPiece{piece(16, "abc"), piece(16, "de")},
		Down: []api.NwPiece{piece(16, "x"), piece(16, "y")}, DownEnd: api.NwReset, DownAt: 16,
	})
}

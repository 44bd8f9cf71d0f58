package network_test

import (
	"bytes"
	"slices"
	"strings"
	"testing"

	"spillway/api"
	"spillway/network"
)

// samePieces reports whether two lists of pieces are the same.
func samePieces(a, b []api.NwPiece) bool {
	return slices.EqualFunc(a, b, func(p, q api.NwPiece) bool { return p.At == q.At && bytes.Equal(p.Bytes, q.Bytes) })
}

// sameConn reports whether two connections are the same.
func sameConn(a, b api.NwConn) bool {
	numbers := func(c api.NwConn) [12]int64 {
		return [12]int64{c.Id, int64(c.Backend), int64(c.Status), c.Born, c.Ready, c.Sent, int64(c.UpEnd), int64(c.DownEnd), c.UpAt, c.DownAt, int64(c.InEnd), int64(c.OutEnd)}
	}
	return numbers(a) == numbers(b) && samePieces(a.Up, b.Up) && samePieces(a.Down, b.Down) && bytes.Equal(a.In, b.In) && bytes.Equal(a.Out, b.Out)
}

// same reports whether two networks are the same.
func same(a, b api.NwState) bool {
	return a.Now == b.Now && a.Next == b.Next && slices.Equal(a.Plans, b.Plans) && slices.EqualFunc(a.Conns, b.Conns, sameConn)
}

// sameResult reports whether two results are the same.
func sameResult(a, b result) bool {
	return same(a.s, b.s) && a.n == b.n && bytes.Equal(a.b, b.b) && a.end == b.end && slices.Equal(a.events, b.events) && sameConn(a.conn, b.conn) && a.count == b.count && a.e == b.e
}

// check does a call, and fails if its result is not what the model says. It returns the result.
func check(t *testing.T, s api.NwState, c call) result {
	t.Helper()
	got, want := do(s, c), model(s, c)
	if !sameResult(got, want) {
		t.Fatalf("%s of %s:\n%s, want\n%s", short(c), short(s), short(got), short(want))
	}
	return got
}

// checkError does a call, and fails if it has not this error, or the model another one.
func checkError(t *testing.T, s api.NwState, c call, e api.Errno) {
	t.Helper()
	if r := check(t, s, c); r.e != e {
		t.Errorf("%s of %s: %d, want %d", short(c), short(s), r.e, e)
	}
}

// checkOnlyError does a call, and fails if it has not this error: for networks with so many bytes that the model is slow.
func checkOnlyError(t *testing.T, s api.NwState, c call, e api.Errno) {
	t.Helper()
	if r := do(s, c); r.e != e {
		t.Errorf("%s of %s: %d, want %d", short(c), short(s.Conns[0].Id), r.e, e)
	}
}

// checkConn fails if a network has not this connection.
func checkConn(t *testing.T, s api.NwState, want api.NwConn) {
	t.Helper()
	if c, e := network.Find(s, want.Id); e != api.OK || !sameConn(c, want) {
		t.Errorf("Find(%d): %s, %d, want %s", want.Id, short(c), e, short(want))
	}
}

// after is a network after calls that must succeed.
func after(t *testing.T, s api.NwState, l ...call) api.NwState {
	t.Helper()
	for _, c := range l {
		r := do(s, c)
		if r.e != api.OK {
			t.Fatalf("%s of %s: %d", short(c), short(s), r.e)
		}
		s = r.s
	}
	return s
}

// Calls by their arguments.
func dial(backend int64) call              { return call{name: "dial", n: backend} }
func tick(to int64) call                   { return call{name: "tick", n: to} }
func write(id int64, b string) call        { return call{name: "write", n: id, b: b} }
func read(id, most int64) call             { return call{name: "read", n: id, m: most} }
func hangUp(id int64) call                 { return call{name: "close", n: id} }
func take(id int64) call                   { return call{name: "take", n: id} }
func put(id int64, b string, d int64) call { return call{name: "put", n: id, b: b, delay: d} }
func finish(id int64, how int, d int64) call {
	return call{name: "finish", n: id, m: int64(how), delay: d}
}
func count(backend int64) call { return call{name: "count", n: backend} }
func find(id int64) call       { return call{name: "find", n: id} }
func plan(backend int64, fail int, delay int64, window int) call {
	return call{name: "plan", n: backend, plan: api.NwPlan{Fail: fail, Delay: delay, Window: window}}
}

// plans are plans of all kinds.
func plans() []api.NwPlan {
	return []api.NwPlan{
		{Fail: api.NwGood, Delay: 5, Window: 4},
		{Fail: api.NwRefused, Delay: 2, Window: 1},
		{Fail: api.NwSilent, Delay: 3, Window: 2},
		{Fail: api.NwGood, Delay: 0, Window: maxWindow},
		{Fail: api.NwGood, Delay: maxDelay, Window: 3},
	}
}

// state is a network with all plans.
func state(now, next int64, l ...api.NwConn) api.NwState {
	return api.NwState{Now: now, Next: next, Plans: plans(), Conns: l}
}

// piece is a piece.
func piece(at int64, b string) api.NwPiece { return api.NwPiece{At: at, Bytes: []byte(b)} }

// up is a connection that is up, and has nothing else, to the first backend.
func up(id int64) api.NwConn {
	return api.NwConn{Id: id, Status: api.NwUp, Born: 2, Ready: 7}
}

// with is a connection that was changed.
func with(c api.NwConn, change func(c *api.NwConn)) api.NwConn {
	change(&c)
	return c
}

// full is a connection with something in each part that one that is up may have.
func full(id int64) api.NwConn {
	return with(up(id), func(c *api.NwConn) {
		c.Sent = 9
		c.Up = []api.NwPiece{piece(10, "a"), piece(12, "bc")}
		c.In = []byte("def")
		c.Down = []api.NwPiece{piece(11, "ghi"), piece(11, "j"), piece(14, "k")}
		c.Out = []byte("lm")
		c.DownEnd, c.DownAt = api.NwClose, 16
	})
}

// left is a connection that the client has closed, with something in each part that such a one may have.
func left(id int64) api.NwConn {
	return with(up(id), func(c *api.NwConn) {
		c.Status, c.Sent = api.NwClosed, 7
		c.Up = []api.NwPiece{piece(9, "no"), piece(12, "p")}
		c.In = []byte("qrst")
		c.UpEnd, c.UpAt = api.NwClose, 12
	})
}

// conns are connections of all kinds for the time 9, by their numbers.
func conns() []api.NwConn {
	return []api.NwConn{
		{Id: 1, Backend: 0, Status: api.NwDialling, Born: 5, Ready: 10},
		{Id: 2, Backend: 1, Status: api.NwDialling, Born: 9, Ready: 11},
		{Id: 3, Backend: 2, Status: api.NwDialling, Born: 0, Ready: never},
		{Id: 4, Backend: 0, Status: api.NwFailed, Born: 0, Ready: 5},
		up(5),
		full(6),
		with(full(7), func(c *api.NwConn) { c.DownEnd = api.NwReset }),
		with(up(8), func(c *api.NwConn) { c.Out, c.OutEnd, c.Sent = []byte("xyz"), api.NwClose, 3 }),
		with(up(9), func(c *api.NwConn) { c.OutEnd, c.Up, c.Sent = api.NwReset, []api.NwPiece{piece(9, "abcde")}, 5 }),
		left(10),
		with(left(11), func(c *api.NwConn) { c.Up, c.UpEnd, c.UpAt, c.InEnd = nil, api.NwOpen, 0, api.NwClose }),
		{Id: 12, Backend: 0, Status: api.NwClosed, Born: 8, Ready: 13},
		{Id: 13, Backend: 3, Status: api.NwUp, Born: 9, Ready: 9, Sent: 2, Up: []api.NwPiece{piece(9, "u")}, In: []byte("v"), Down: []api.NwPiece{piece(9, "w")}},
		{Id: 14, Backend: 4, Status: api.NwUp, Born: 1, Ready: 3, Sent: 3, Up: []api.NwPiece{piece(100009, "two")}, DownEnd: api.NwReset, DownAt: 9},
	}
}

// valid are networks of many kinds.
func valid() []api.NwState {
	l := []api.NwState{
		{Next: 1},
		{Now: maxTime, Next: maxHandle},
		state(0, 1),
		state(9, 15, conns()...),
		state(9, maxHandle, conns()...),
		state(maxTime-3, 100, conns()...),
		state(maxTime, 15, conns()...),
		crowd(500),
		crowd(499),
	}
	for _, c := range conns() {
		l = append(l, state(9, c.Id+1, c))
	}
	return l
}

// small are valid networks without crowds.
func small() []api.NwState {
	return slices.DeleteFunc(valid(), func(s api.NwState) bool { return len(s.Conns) > 20 })
}

// crowd is a network with n connections of all kinds.
func crowd(n int64) api.NwState {
	s := state(9, 2*n+1)
	kinds := conns()
	for i := range n {
		c := kinds[i%int64(len(kinds))]
		c.Id = 2*i + 1
		s.Conns = append(s.Conns, c)
	}
	return s
}

// cloned is a network in other memory.
func cloned(s api.NwState) api.NwState {
	s.Plans, s.Conns = slices.Clone(s.Plans), slices.Clone(s.Conns)
	for i := range s.Conns {
		c := &s.Conns[i]
		c.Up, c.Down = clonedPieces(c.Up), clonedPieces(c.Down)
		c.In, c.Out = slices.Clone(c.In), slices.Clone(c.Out)
	}
	return s
}

// clonedPieces are pieces in other memory.
func clonedPieces(l []api.NwPiece) []api.NwPiece {
	l = slices.Clone(l)
	for i := range l {
		l[i].Bytes = slices.Clone(l[i].Bytes)
	}
	return l
}

// many is n bytes.
func many(n int) string { return strings.Repeat("abcdefgh", n/8+1)[:n] }

// numbers returns a function that returns numbers below n that look like random ones, the same ones each time.
func numbers(seed uint64) func(n int64) int64 {
	return func(n int64) int64 {
		seed = seed*6364136223846793005 + 1442695040888963407
		return int64(seed>>33) % n
	}
}

// someCalls are calls of all functions, with errors and without.
func someCalls() []call {
	var l []call
	for _, name := range names {
		for id := int64(-1); id < 17; id++ {
			l = append(l, call{name: name, n: id, m: 1, b: "12", delay: 1, plan: api.NwPlan{Fail: 1, Delay: 3, Window: 2}})
		}
		for _, n := range []int64{27, 499, 500, 501, 997, 999, 1000, 1001, 100009, maxTime - 4, maxTime - 3, maxTime, never, maxHandle} {
			l = append(l, call{name: name, n: n, m: 2, b: "", delay: 0})
		}
		for _, id := range []int64{0, 1, 2, 3, 4, 5, 6, 8, 9, 10, 12, 13, 14} {
			for i, m := range []int64{-1, 0, 1, 2, 3, maxDelay, maxDelay + 1} {
				l = append(l, call{name: name, n: id, m: m, b: many(i * 2), delay: m, plan: api.NwPlan{Fail: int(m), Delay: m, Window: int(m)}})
			}
		}
	}
	return l
}

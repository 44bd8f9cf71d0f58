package network_test

import (
	"slices"
	"strings"
	"testing"

	"spillway/api"
	"spillway/network"
)

// eachRun calls f with all runs of n of the calls.
func eachRun(calls []call, n int, f func(run []call)) {
	if n == 0 {
		f(nil)
		return
	}
	eachRun(calls, n-1, func(run []call) {
		for _, c := range calls {
			f(append(slices.Clip(run), c))
		}
	})
}

// step does a call of a network and of a world, and fails if they differ. It returns what the call returned.
func step(t *testing.T, s api.NwState, w *world, c call) result {
	t.Helper()
	got, want := do(s, c), w.do(c)
	want.s = w.state()
	if !sameResult(got, want) {
		t.Fatalf("%s of %s:\n%s, want\n%s", short(c), short(s), short(got), short(want))
	}
	return got
}

func TestAllShortRuns(t *testing.T) { // P12.2 to P12.5
	calls := []call{
		dial(0), tick(2), tick(3), write(1, "abc"), write(1, ""), read(1, 2), hangUp(1), take(1),
		put(1, "xy", 1), put(1, "z", 0), finish(1, api.NwClose, 0), finish(1, api.NwReset, 2), plan(0, api.NwGood, 0, 3), plan(0, api.NwRefused, 1, 1),
	}
	first := api.NwState{Next: 1, Plans: []api.NwPlan{{Delay: 1, Window: 2}}}
	for n := range 5 {
		eachRun(calls, n, func(run []call) {
			s, w := first, worldOf(first)
			for _, c := range append([]call{dial(0), tick(1)}, run...) {
				s = step(t, s, w, c).s
			}
			for _, c := range []call{{name: "due"}, find(1), count(0), tick(9)} {
				step(t, s, w, c)
			}
		})
	}
}

// text is some bytes, the next ones after others that were used.
func text(next func(n int64) int64, n int64) string {
	var b strings.Builder
	for range n {
		b.WriteByte(byte(next(256)))
	}
	return b.String()
}

// anyCall is a call with a network that has some connections.
func anyCall(next func(n int64) int64, s api.NwState) call {
	id := next(s.Next + 1)
	if n := int64(len(s.Conns)); n > 0 && next(8) > 0 {
		id = s.Conns[max(0, n-1-next(5))].Id
	}
	backend := next(int64(len(s.Plans)) + 1)
	delay := next(4) * next(6)
	switch next(20) {
	case 0, 1:
		return dial(backend)
	case 2, 3, 4:
		return tick(s.Now + next(6))
	case 5:
		return plan(backend, int(max(0, next(5)-2)), next(8), int(1+next(9)))
	case 6, 7, 8, 9:
		return write(id, text(next, next(7)))
	case 10, 11, 12:
		return read(id, next(7))
	case 13:
		if next(3) > 0 {
			return take(id)
		}
		return hangUp(id)
	case 14:
		return take(id)
	case 15:
		return finish(id, int(next(4)), delay)
	case 16:
		return tick(s.Now + next(60) - 1)
	}
	return put(id, text(next, next(7)), delay-next(2)*next(2)*next(2))
}

// begun is a network without connections.
func begun(now int64) api.NwState {
	return api.NwState{Now: now, Next: 1, Plans: []api.NwPlan{{Delay: 5, Window: 4}, {Fail: api.NwRefused, Delay: 2, Window: 1}, {Fail: api.NwSilent, Delay: 3, Window: 2}, {Window: 9}, {Delay: 20, Window: 20}}}
}

func TestLongRuns(t *testing.T) { // P12.2 to P12.5
	for seed := range uint64(8) {
		next := numbers(seed)
		s := begun(int64(seed))
		w := worldOf(s)
		for range 1000 {
			s = step(t, s, w, anyCall(next, s)).s
			if e := network.Check(s); e != api.OK || faultOf(s) != api.OK {
				t.Fatalf("Check(%s): %d", short(s), e)
			}
		}
	}
}

// random are networks that come from long runs.
func random(n int) []api.NwState {
	var l []api.NwState
	for seed := range n {
		next := numbers(uint64(seed) + 100)
		s := begun(next(9))
		for range 5 + next(150) {
			s = do(s, anyCall(next, s)).s
		}
		l = append(l, s)
	}
	return l
}

// talk is what has gone over a connection: what the client has written, and the backend has taken; what the backend has put, and the client has read.
type talk struct{ written, taken, put, read string }

// joined are the bytes that are in a direction.
func joined(arrived []byte, pieces []api.NwPiece) string {
	all := string(arrived)
	for _, p := range pieces {
		all += string(p.Bytes)
	}
	return all
}

// checkTalk fails if bytes of a connection were lost, doubled or changed, or if an end has come before them.
func checkTalk(t *testing.T, c api.NwConn, x *talk) {
	t.Helper()
	if x.taken+joined(c.In, c.Up) != x.written {
		t.Fatalf("%q are taken of %q: %s", x.taken, x.written, short(c))
	}
	if !strings.HasPrefix(x.put, x.read) {
		t.Fatalf("%q are read of %q: %s", x.read, x.put, short(c))
	}
	if c.Status != api.NwClosed && c.OutEnd != api.NwReset && x.read+joined(c.Out, c.Down) != x.put {
		t.Fatalf("%q are read of %q: %s", x.read, x.put, short(c))
	}
	if c.Sent != int64(len(x.written)) {
		t.Fatalf("%q are written: %s", x.written, short(c))
	}
}

func TestBytesComeInOrder(t *testing.T) { // P12.7
	ends := map[api.Errno]int{}
	for seed := range uint64(150) {
		next := numbers(seed + 500)
		s := begun(0)
		talks := map[int64]*talk{}
		for range 500 {
			c := anyCall(next, s)
			if c.name == "finish" && next(3) > 0 {
				continue // so that more is said before the end
			}
			r := do(s, c)
			s = r.s
			if c.name == "dial" && r.e == api.OK {
				talks[r.n] = &talk{}
			}
			x := talks[c.n]
			switch {
			case c.name == "write" && r.e == api.OK:
				x.written += c.b[:r.n]
			case c.name == "take" && r.e == api.OK:
				x.taken += string(r.b)
				if r.end != api.NwOpen && x.taken != x.written {
					t.Fatalf("an end behind %q of %q", x.taken, x.written)
				}
				ends[api.Errno(r.end)]++
			case c.name == "put" && r.e == api.OK:
				if f := do(s, find(c.n)).conn; f.Status == api.NwUp {
					x.put += c.b
				}
			case c.name == "read" && r.e == api.OK:
				x.read += string(r.b)
			case c.name == "read" && r.e == network.ErrEnd && x.read != x.put:
				t.Fatalf("an end behind %q of %q", x.read, x.put)
			}
			if c.name == "read" {
				ends[r.e]++
			}
			for _, f := range s.Conns {
				checkTalk(t, f, talks[f.Id])
			}
		}
	}
	for _, e := range []api.Errno{api.NwOpen, api.NwClose, network.ErrEnd, network.ErrReset, api.ErrMore} {
		if ends[e] < 10 {
			t.Errorf("%d has come %d times", e, ends[e])
		}
	}
}

func TestResetsTakeAway(t *testing.T) { // P12.7: what was not read, and nothing before they arrive
	for n := range 6 {
		s := after(t, state(9, 2, up(1)), put(1, "abc", 0), put(1, "de", 4), finish(1, api.NwReset, 9), tick(20))
		var got string
		if n > 0 {
			r := check(t, s, read(1, int64(n)))
			s, got = r.s, string(r.b)
		}
		if got != "abcde"[:n] {
			t.Errorf("Read %d: %q", n, got)
		}
		checkError(t, after(t, s, tick(22)), read(1, 1), map[bool]api.Errno{true: api.OK, false: api.ErrMore}[n < 5])
		checkError(t, after(t, s, tick(23)), read(1, 1), network.ErrReset)
	}
}

// readAll reads what has arrived in the sizes that size says, and returns the network then, all bytes, and the error at the end.
func readAll(s api.NwState, id int64, size func() int64) (api.NwState, string, api.Errno) {
	var all strings.Builder
	for {
		r := do(s, read(id, size()))
		if r.e != api.OK {
			return s, all.String(), r.e
		}
		all.Write(r.b)
		s = r.s
	}
}

func TestReadInAnySizes(t *testing.T) { // P12.8
	found := 0
	next := numbers(7)
	for _, s := range append(random(200), state(9, 15, conns()...)) {
		for _, c := range s.Conns {
			u, all, e := readAll(s, c.Id, func() int64 { return 1 << 40 })
			for _, size := range []func() int64{func() int64 { return 1 }, func() int64 { return 2 }, func() int64 { return 1 + next(4) }} {
				v, some, f := readAll(s, c.Id, size)
				if !same(u, v) || all != some || e != f {
					t.Fatalf("%q, %d in parts of %s, want %q, %d", some, f, short(c), all, e)
				}
			}
			if len(all) > 1 {
				found++
			}
		}
	}
	if found < 20 {
		t.Errorf("%d connections with bytes", found)
	}
}

func TestTicksAreLikeOne(t *testing.T) { // P12.8
	next := numbers(3)
	for _, s := range append(random(300), small()...) {
		to := s.Now
		u := s
		many := map[api.NwEvent]bool{}
		for range 1 + next(6) {
			to = min(to+next(8), maxTime)
			r := check(t, u, tick(to))
			u = r.s
			for _, x := range r.events {
				many[x] = true
			}
		}
		r := check(t, s, tick(to))
		if !same(r.s, u) {
			t.Fatalf("%s: ticks up to %d: %s; one tick: %s", short(s), to, short(u), short(r.s))
		}
		for _, x := range r.events {
			if !many[x] {
				t.Fatalf("%s: ticks up to %d without %v", short(s), to, x)
			}
			delete(many, x)
		}
		if len(many) > 0 {
			t.Fatalf("%s: one tick to %d without %v", short(s), to, many)
		}
	}
}

func TestNothingBeforeDue(t *testing.T) { // P12.9
	found := 0
	for _, s := range append(random(300), small()...) {
		due, e := network.Due(s)
		if e != api.OK {
			r := check(t, s, tick(maxTime))
			s.Now = maxTime
			if e != api.ErrNone || len(r.events) > 0 || !same(r.s, s) {
				t.Fatalf("%s: nothing is due, but: %s", short(s), short(r))
			}
			continue
		}
		found++
		for to := s.Now; to < min(due, s.Now+100); to++ {
			r, was := check(t, s, tick(to)), s
			was.Now = to
			if len(r.events) > 0 || !same(r.s, was) {
				t.Fatalf("%s: at %d, before %d: %s", short(s), to, due, short(r))
			}
		}
		if r := check(t, s, tick(max(due, s.Now))); len(r.events) == 0 {
			t.Fatalf("%s: at %d nothing happens", short(s), due)
		}
	}
	if found < 100 {
		t.Errorf("%d networks with something due", found)
	}
}

func TestWhatEndsHasEnded(t *testing.T) { // P12.9
	ended := 0
	for seed := range uint64(20) {
		next := numbers(seed + 900)
		s := begun(0)
		status, given := map[int64]int{}, map[int64]bool{}
		for range 400 {
			c := anyCall(next, s)
			r := do(s, c)
			s = r.s
			if c.name == "dial" && r.e == api.OK {
				if given[r.n] {
					t.Fatalf("%d is given again", r.n)
				}
				given[r.n] = true
			}
			for _, f := range s.Conns {
				if was := status[f.Id]; was == api.NwFailed || was == api.NwClosed {
					ended++
					if f.Status != was {
						t.Fatalf("%s: the status was %d", short(f), was)
					}
				}
				status[f.Id] = f.Status
			}
			if len(status) != len(given) || len(s.Conns) != len(given) {
				t.Fatalf("%d connections are there, of %d", len(s.Conns), len(given))
			}
		}
	}
	if ended < 100 {
		t.Errorf("%d times a connection had ended", ended)
	}
}

func TestNetworksAreValid(t *testing.T) { // P12.9
	for _, s := range append(random(20), small()...) {
		for _, c := range someCalls() {
			if r := check(t, s, c); network.Check(r.s) != api.OK || faultOf(r.s) != api.OK {
				t.Fatalf("%s of %s: %s", short(c), short(s), short(r.s))
			}
		}
	}
}

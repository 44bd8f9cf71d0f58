package network_test

import (
	"fmt"
	"slices"

	"spillway/api"
	"spillway/network"
)

// The numbers of the chapter, in its own words.
const (
	maxTime   = 1000000000000
	never     = maxTime + 1
	maxHandle = 1000000000000000
	maxPlans  = 16
	maxConns  = 500
	maxDelay  = 100000
	maxWindow = 65536
	maxBytes  = 1048576
)

// call is a call with a network: n is a connection, a backend or a time, m the most bytes, a delay or how a direction ends.
type call struct {
	name  string
	n, m  int64
	delay int64
	b     string
	plan  api.NwPlan
}

// The names of calls: those that return a network, and the others.
var (
	changing = []string{"plan", "dial", "tick", "write", "read", "close", "take", "put", "finish"}
	asking   = []string{"check", "due", "find", "count"}
	names    = slices.Concat(changing, asking)
)

// result is what a call returns; what it does not return is zero, but its network is the one that was given.
type result struct {
	s      api.NwState
	n      int64
	b      []byte
	end    int
	events []api.NwEvent
	conn   api.NwConn
	count  api.NwCount
	e      api.Errno
}

// do does a call.
func do(s api.NwState, c call) result {
	r := result{s: s}
	switch c.name {
	case "plan":
		r.s, r.e = network.Plan(s, int(c.n), c.plan)
	case "dial":
		r.s, r.n, r.e = network.Dial(s, int(c.n))
	case "tick":
		r.s, r.events, r.e = network.Tick(s, c.n)
	case "write":
		var n int
		r.s, n, r.e = network.Write(s, c.n, []byte(c.b))
		r.n = int64(n)
	case "read":
		r.s, r.b, r.e = network.Read(s, c.n, int(c.m))
	case "close":
		r.s, r.e = network.Close(s, c.n)
	case "take":
		r.s, r.b, r.end, r.e = network.Take(s, c.n)
	case "put":
		r.s, r.e = network.Put(s, c.n, []byte(c.b), c.delay)
	case "finish":
		r.s, r.e = network.Finish(s, c.n, int(c.m), c.delay)
	case "check":
		r.e = network.Check(s)
	case "due":
		r.n, r.e = network.Due(s)
	case "find":
		r.conn, r.e = network.Find(s, c.n)
	case "count":
		r.count, r.e = network.Count(s, int(c.n))
	}
	return r
}

// thing is a byte, or an end, that is in a direction.
type thing struct {
	b     byte
	end   int // api.NwOpen: it is a byte
	at    int64
	piece int // bytes with the same number are one piece
	here  bool
}

// link is a connection, with what is in its directions: to the backend, and to the client.
type link struct {
	id              int64
	backend, status int
	born, ready     int64
	sent            int64
	ways            [2][]thing
}

// world is a network in which each byte is on its own.
type world struct {
	now, next int64
	plans     []api.NwPlan
	links     []*link
	pieces    int
}

// things are the things of a direction.
func (w *world) things(arrived []byte, ended int, pieces []api.NwPiece, end int, at int64) []thing {
	var l []thing
	for _, b := range arrived {
		l = append(l, thing{b: b, here: true})
	}
	if ended != api.NwOpen {
		l = append(l, thing{end: ended, here: true})
	}
	for _, p := range pieces {
		w.pieces++
		for _, b := range p.Bytes {
			l = append(l, thing{b: b, at: p.At, piece: w.pieces})
		}
	}
	if end != api.NwOpen {
		l = append(l, thing{end: end, at: at})
	}
	return l
}

// worldOf is the world of a network that is valid.
func worldOf(s api.NwState) *world {
	w := &world{now: s.Now, next: s.Next, plans: slices.Clone(s.Plans)}
	for _, c := range s.Conns {
		x := &link{id: c.Id, backend: c.Backend, status: c.Status, born: c.Born, ready: c.Ready, sent: c.Sent}
		x.ways[0] = w.things(c.In, c.InEnd, c.Up, c.UpEnd, c.UpAt)
		x.ways[1] = w.things(c.Out, c.OutEnd, c.Down, c.DownEnd, c.DownAt)
		w.links = append(w.links, x)
	}
	return w
}

// parts are the parts of a direction with these things.
func parts(l []thing) (arrived []byte, ended int, pieces []api.NwPiece, end int, at int64) {
	last := 0
	for _, x := range l {
		switch {
		case x.here && x.end == api.NwOpen:
			arrived = append(arrived, x.b)
		case x.here:
			ended = x.end
		case x.end != api.NwOpen:
			end, at = x.end, x.at
		case x.piece != last:
			last = x.piece
			pieces = append(pieces, api.NwPiece{At: x.at, Bytes: []byte{x.b}})
		default:
			p := &pieces[len(pieces)-1]
			p.Bytes = append(p.Bytes, x.b)
		}
	}
	return arrived, ended, pieces, end, at
}

// conn is a link as a connection.
func (x *link) conn() api.NwConn {
	c := api.NwConn{Id: x.id, Backend: x.backend, Status: x.status, Born: x.born, Ready: x.ready, Sent: x.sent}
	c.In, c.InEnd, c.Up, c.UpEnd, c.UpAt = parts(x.ways[0])
	c.Out, c.OutEnd, c.Down, c.DownEnd, c.DownAt = parts(x.ways[1])
	return c
}

// state is a world as a network.
func (w *world) state() api.NwState {
	s := api.NwState{Now: w.now, Next: w.next, Plans: w.plans}
	for _, x := range w.links {
		s.Conns = append(s.Conns, x.conn())
	}
	return s
}

// fault is an error, and whether there is a reason for it.
type fault struct {
	is bool
	e  api.Errno
}

// first is the first error of a list for which there is a reason.
func first(l ...fault) api.Errno {
	for _, x := range l {
		if x.is {
			return x.e
		}
	}
	return api.OK
}

// arrival is when something arrives that leaves now, in a direction with these things.
func (w *world) arrival(l []thing, delay int64) int64 {
	at := min(w.now+delay, maxTime)
	for _, x := range l {
		at = max(at, x.at)
	}
	return at
}

// send puts bytes into a direction.
func (w *world) send(l []thing, b string, delay int64) []thing {
	at := w.arrival(l, delay)
	w.pieces++
	for _, c := range []byte(b) {
		l = append(l, thing{b: c, at: at, piece: w.pieces})
	}
	return l
}

// amount is how many bytes of the things of a direction are where.
func amount(l []thing, here bool) int {
	n := 0
	for _, x := range l {
		if x.end == api.NwOpen && x.here == here {
			n++
		}
	}
	return n
}

// ended is how a direction with these things has ended.
func ended(l []thing) int {
	for _, x := range l {
		if x.here && x.end != api.NwOpen {
			return x.end
		}
	}
	return api.NwOpen
}

// model is what a call should return.
func model(s api.NwState, c call) result {
	if e := faultOf(s); e != api.OK {
		return result{s: s, e: e}
	}
	w := worldOf(s)
	r := w.do(c)
	r.s = w.state()
	return r
}

// do does a call; with an error it changes nothing.
func (w *world) do(c call) result {
	switch c.name {
	case "check":
		return result{}
	case "due":
		return w.due()
	case "tick":
		return w.tick(c.n)
	case "plan", "dial", "count":
		if c.n < 0 || c.n >= int64(len(w.plans)) {
			return result{e: api.ErrNone}
		}
		return w.ask(int(c.n), c)
	}
	for _, x := range w.links {
		if x.id == c.n {
			return w.use(x, c)
		}
	}
	return result{e: api.ErrNone}
}

// due is the least of all times at which something happens.
func (w *world) due() result {
	var l []int64
	for _, x := range w.links {
		if x.status == api.NwDialling && x.ready != never {
			l = append(l, x.ready)
		}
		for _, y := range slices.Concat(x.ways[0], x.ways[1]) {
			if !y.here {
				l = append(l, y.at)
			}
		}
	}
	if len(l) == 0 {
		return result{e: api.ErrNone}
	}
	return result{n: slices.Min(l)}
}

// tick lets happen what is due at a time.
func (w *world) tick(to int64) (r result) {
	if to < w.now || to > maxTime {
		return result{e: api.ErrRange}
	}
	w.now = to
	for _, x := range w.links {
		if x.status == api.NwDialling && x.ready <= to {
			x.status = map[bool]int{true: api.NwUp, false: api.NwFailed}[w.plans[x.backend].Fail == api.NwGood]
			r.events = append(r.events, api.NwEvent{Kind: map[int]int{api.NwUp: api.NwDialled, api.NwFailed: api.NwRejected}[x.status], Conn: x.id})
		}
		for i, l := range x.ways {
			some := false
			for k, y := range l {
				if !y.here && y.at <= to {
					l[k] = thing{b: y.b, end: y.end, here: true}
					some = true
				}
			}
			if ended(l) == api.NwReset {
				x.ways[i] = slices.DeleteFunc(l, func(y thing) bool { return y.end == api.NwOpen })
			}
			if some {
				r.events = append(r.events, api.NwEvent{Kind: []int{api.NwArrived, api.NwDelivered}[i], Conn: x.id})
			}
		}
	}
	return r
}

// ask does a call with a backend.
func (w *world) ask(backend int, c call) (r result) {
	p := w.plans[backend]
	switch c.name {
	case "plan":
		r.e = first(fault{!isPlan(c.plan), api.ErrRange})
		if r.e == api.OK {
			w.plans[backend] = c.plan
		}
	case "dial":
		r.e = first(fault{len(w.links) == maxConns || w.next == maxHandle, api.ErrFull})
		if r.e == api.OK {
			ready := min(w.now+p.Delay, maxTime)
			if p.Fail == api.NwSilent {
				ready = never
			}
			w.links = append(w.links, &link{id: w.next, backend: backend, born: w.now, ready: ready})
			r.n = w.next
			w.next++
		}
	case "count":
		for _, x := range w.links {
			if x.backend == backend {
				*[]*int{&r.count.Dialling, &r.count.Up, &r.count.Failed, &r.count.Closed}[x.status] += 1
			}
		}
	}
	return r
}

// use does a call with a connection.
func (w *world) use(x *link, c call) (r result) {
	p, up, down := w.plans[x.backend], x.ways[0], x.ways[1]
	is := func(l ...int) bool { return slices.Contains(l, x.status) }
	switch c.name {
	case "find":
		r.conn = x.conn()
	case "write":
		room := p.Window - amount(up, false)
		n := max(0, min(room, len(c.b)))
		r.e = first(
			fault{!is(api.NwUp), api.ErrDown},
			fault{ended(down) == api.NwReset, network.ErrReset},
			fault{c.b != "" && room <= 0, api.ErrMore},
			fault{amount(up, false)+amount(up, true)+n > maxBytes || x.sent+int64(n) > maxHandle, api.ErrLong},
		)
		if r.e == api.OK {
			x.ways[0] = w.send(up, c.b[:n], p.Delay)
			x.sent += int64(n)
			r.n = int64(n)
		}
	case "read":
		none := amount(down, true) == 0
		r.e = first(
			fault{!is(api.NwUp), api.ErrDown},
			fault{c.m < 1, api.ErrRange},
			fault{none && ended(down) == api.NwOpen, api.ErrMore},
			fault{none && ended(down) == api.NwClose, network.ErrEnd},
			fault{none && ended(down) == api.NwReset, network.ErrReset},
		)
		if r.e == api.OK {
			n := min(c.m, int64(amount(down, true)))
			for _, y := range down[:n] {
				r.b = append(r.b, y.b)
			}
			x.ways[1] = down[n:]
		}
	case "close":
		r.e = first(fault{is(api.NwFailed, api.NwClosed), api.ErrDown})
		if r.e == api.OK {
			if is(api.NwUp) {
				x.ways[0] = append(up, thing{end: api.NwClose, at: w.arrival(up, p.Delay)})
			}
			x.status, x.ways[1] = api.NwClosed, nil
		}
	default:
		return w.answer(x, c)
	}
	return r
}

// answer does what the backend does with a connection.
func (w *world) answer(x *link, c call) (r result) {
	p, up, down := w.plans[x.backend], x.ways[0], x.ways[1]
	over := ended(down) != api.NwOpen || len(down) > 0 && down[len(down)-1].end != api.NwOpen
	early := fault{x.status == api.NwDialling || x.status == api.NwFailed, api.ErrDown}
	late := fault{c.delay < 0 || c.delay > maxDelay, api.ErrRange}
	switch c.name {
	case "take":
		r.e = first(early)
		if r.e == api.OK {
			n := amount(up, true)
			for _, y := range up[:n] {
				r.b = append(r.b, y.b)
			}
			r.end = ended(up)
			x.ways[0] = up[n:]
		}
	case "put":
		r.e = first(early, late, fault{over, api.ErrDown}, fault{amount(down, false)+amount(down, true)+len(c.b) > maxBytes, api.ErrLong})
		if r.e == api.OK && x.status != api.NwClosed {
			x.ways[1] = w.send(down, c.b, p.Delay+c.delay)
		}
	case "finish":
		r.e = first(early, late, fault{c.m != api.NwClose && c.m != api.NwReset, api.ErrArg}, fault{over, api.ErrDown})
		if r.e == api.OK && x.status != api.NwClosed {
			x.ways[1] = append(down, thing{end: int(c.m), at: w.arrival(down, p.Delay+c.delay)})
		}
	}
	return r
}

// isPlan reports whether the numbers of a plan are as stated.
func isPlan(p api.NwPlan) bool {
	return p.Fail >= 0 && p.Fail <= 2 && p.Delay >= 0 && p.Delay <= maxDelay && p.Window >= 1 && p.Window <= maxWindow
}

// total is how many bytes are in a direction.
func total(arrived []byte, pieces []api.NwPiece) int {
	n := len(arrived)
	for _, p := range pieces {
		n += len(p.Bytes)
	}
	return n
}

// outside reports whether a number of a connection is out of its range.
func outside(s api.NwState, c api.NwConn) bool {
	l := [][3]int64{
		{1, c.Id, s.Next - 1}, {0, int64(c.Backend), int64(len(s.Plans)) - 1}, {0, int64(c.Status), 3},
		{0, c.Born, maxTime}, {0, c.Ready, never}, {0, c.Sent, maxHandle}, {0, c.UpAt, maxTime}, {0, c.DownAt, maxTime},
		{0, int64(c.UpEnd), 2}, {0, int64(c.DownEnd), 2}, {0, int64(c.InEnd), 2}, {0, int64(c.OutEnd), 2},
	}
	for _, p := range slices.Concat(c.Up, c.Down) {
		l = append(l, [3]int64{0, p.At, maxTime})
	}
	return slices.ContainsFunc(l, func(x [3]int64) bool { return x[1] < x[0] || x[1] > x[2] })
}

// wrongWay reports whether the parts of a direction do not fit.
func wrongWay(born int64, pieces []api.NwPiece, end int, at int64, ended int) bool {
	times, empty := []int64{born}, false
	for _, p := range pieces {
		times = append(times, p.At)
		empty = empty || len(p.Bytes) == 0
	}
	if end != api.NwOpen {
		times = append(times, at)
	}
	on := len(times) > 1
	return empty || !slices.IsSorted(times) || end == api.NwOpen && at != 0 || ended != api.NwOpen && on
}

// wrong reports whether the parts of a connection do not fit.
func wrong(s api.NwState, c api.NwConn) bool {
	up := len(c.Up) > 0 || len(c.In) > 0
	upEnds := c.UpEnd != api.NwOpen || c.InEnd != api.NwOpen
	down := len(c.Down) > 0 || len(c.Out) > 0 || c.DownEnd != api.NwOpen || c.OutEnd != api.NwOpen
	return slices.Contains([]bool{
		c.Born > s.Now,
		wrongWay(c.Born, c.Up, c.UpEnd, c.UpAt, c.InEnd),
		wrongWay(c.Born, c.Down, c.DownEnd, c.DownAt, c.OutEnd),
		int64(total(c.In, c.Up)) > c.Sent,
		c.UpEnd == api.NwReset || c.InEnd == api.NwReset,
		(c.Status == api.NwDialling || c.Status == api.NwFailed) && (up || upEnds || down || c.Sent != 0),
		c.Status == api.NwClosed && down,
		c.Status == api.NwUp && upEnds,
		len(c.Out) > 0 && c.OutEnd == api.NwReset,
	}, true)
}

// faultOf is what Check should return.
func faultOf(s api.NwState) api.Errno {
	long := len(s.Plans) > maxPlans || len(s.Conns) > maxConns
	far := s.Now < 0 || s.Now > maxTime || s.Next < 1 || s.Next > maxHandle
	form := false
	for _, p := range s.Plans {
		far = far || !isPlan(p)
	}
	for i, c := range s.Conns {
		long = long || total(c.In, c.Up) > maxBytes || total(c.Out, c.Down) > maxBytes
		far = far || outside(s, c)
		form = form || wrong(s, c) || i > 0 && s.Conns[i-1].Id >= c.Id
	}
	return first(fault{long, api.ErrLong}, fault{far, api.ErrRange}, fault{form, api.ErrForm})
}

// short is anything as a text that is not too long.
func short(x any) string { return fmt.Sprintf("%.800s", fmt.Sprint(x)) }

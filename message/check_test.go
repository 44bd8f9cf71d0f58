package message_test

import (
	"math"
	"strings"
	"testing"

	"spillway/api"
	"spillway/message"
	"spillway/request"
)

// checkBegin fails if Begin does not return these results.
func checkBegin(t *testing.T, r api.Request, maxHeader, maxBody int, want api.MsState, e api.Errno) {
	t.Helper()
	x, got := message.Begin(r, maxHeader, maxBody)
	if !same(x, want) || got != e {
		t.Errorf("Begin(%s, %d, %d): %s, %d, want %s, %d", short(r), maxHeader, maxBody, short(x), got, short(want), e)
	}
}

// checkValid fails if Check, and the functions that return its error first, do not agree that an exchange is valid, or that it is not.
func checkValid(t *testing.T, x api.MsState, want bool) {
	t.Helper()
	e := message.Check(x)
	if want {
		if e != api.OK {
			t.Errorf("Check(%s): %d", short(x), e)
		}
		return
	}
	if e != api.ErrForm {
		t.Errorf("Check(%s): %d", short(x), e)
	}
	checkNext(t, x, -1, "", api.ErrForm)
	checkNext(t, x, 1, "", api.ErrForm)
	for _, v := range []api.MsEvent{{}, sent(0), sent(-1), got("x"), closed, reset, abort(api.FaDeadline), abort(0)} {
		checkStep(t, x, v, api.MsState{}, api.ErrForm)
	}
	for _, n := range []int{0, 1, 501} {
		checkPlay(t, x, make([]api.MsEvent, n), nil, api.MsState{}, api.ErrForm)
	}
	checkVerdict(t, x, api.MsVerdict{}, api.ErrForm)
}

// compareValid does the same by what the model says.
func compareValid(t *testing.T, x api.MsState) {
	t.Helper()
	checkValid(t, x, valid(x))
}

func TestBegin(t *testing.T) { // P10.1
	for _, maxHeader := range []int{64, 65, 100, 65535, 65536} {
		for _, maxBody := range []int{0, 1, 65535, 65536} {
			checkBegin(t, asked("GET"), maxHeader, maxBody, begun("GET", maxHeader, maxBody), api.OK)
			checkBegin(t, asked("HEAD"), maxHeader, maxBody, begun("HEAD", maxHeader, maxBody), api.OK)
			checkValid(t, begun("GET", maxHeader, maxBody), true)
		}
	}
	r := api.Request{Id: 1000000000, Method: "POST", Target: "/a?b", Host: "host:1", Fields: fields("Connection", "x", "X", "y", "accept", "z"), Body: "body"}
	s := "POST /a?b HTTP/1.1\r\nHost: host:1\r\nX-Request-Id: 1000000000\r\naccept: z\r\nContent-Length: 4\r\n\r\nbody"
	x := api.MsState{Request: r, Out: s, In: api.RsState{Method: "POST"}, MaxHeader: 64, MaxBody: 7}
	checkBegin(t, r, 64, 7, x, api.OK)
	checkValid(t, x, true)
}

func TestBeginOfLimits(t *testing.T) { // P10.1
	for _, n := range []int{math.MinInt, -1, 0, 1, 63, 65537, math.MaxInt} {
		checkBegin(t, asked("GET"), n, 0, api.MsState{}, api.ErrRange)
		checkBegin(t, asked("GET"), n, -1, api.MsState{}, api.ErrRange)
	}
	for _, n := range []int{math.MinInt, -1, 65537, math.MaxInt} {
		checkBegin(t, asked("GET"), 64, n, api.MsState{}, api.ErrRange)
		checkBegin(t, asked("GET"), 65536, n, api.MsState{}, api.ErrRange)
	}
}

// faulty is requests with faults of each part and error.
func faulty() []api.Request {
	var all []api.Request
	for _, change := range []func(r *api.Request){
		func(r *api.Request) { r.Id = 0 },
		func(r *api.Request) { r.Id = 1000000001 },
		func(r *api.Request) { r.Method = "" },
		func(r *api.Request) { r.Method = strings.Repeat("x", 17) },
		func(r *api.Request) { r.Method = "CONNECT" },
		func(r *api.Request) { r.Target = "a" },
		func(r *api.Request) { r.Target = "/" + strings.Repeat("x", 500) },
		func(r *api.Request) { r.Host = "" },
		func(r *api.Request) { r.Fields = fields("a b", "c") },
		func(r *api.Request) { r.Fields = fields("Host", "c") },
		func(r *api.Request) { r.Fields = make([]api.HdField, 101) },
		func(r *api.Request) { r.Fields = fields("connection", "\"") },
		func(r *api.Request) { r.Body = "x" },
		func(r *api.Request) { r.Method, r.Body = "PUT", strings.Repeat("x", 65537) },
	} {
		r := asked("GET")
		change(&r)
		all = append(all, r)
	}
	return all
}

func TestBeginOfRequestsWithFaults(t *testing.T) { // P10.1
	for _, r := range faulty() {
		_, e := request.Check(r)
		if e == api.OK {
			t.Fatalf("%s has no fault", short(r))
		}
		checkBegin(t, r, 64, 0, api.MsState{}, e)
		checkBegin(t, r, 63, -1, api.MsState{}, e)
	}
}

func TestExchangesAreValid(t *testing.T) { // P10.1, P10.3
	for _, x := range exchanges() {
		checkValid(t, x, true)
	}
}

func TestRequestsOfExchanges(t *testing.T) { // P10.1
	for _, r := range faulty() {
		x := begun("GET", 100, 10)
		x.Request = r
		checkValid(t, x, false)
		x.Out, x.In.Method = "", r.Method
		checkValid(t, x, false)
	}
	x := begun("GET", 100, 10)
	for _, s := range []string{"", out[1:], out[:43], out + "x", strings.Replace(out, "h", "i", 1), strings.Replace(out, "Host: h", "host: h", 1)} {
		x.Out = s
		checkValid(t, x, false)
	}
	for n := -2; n < 50; n++ {
		x := begun("GET", 100, 10)
		x.Sent = n
		checkValid(t, x, 0 <= n && n <= 44)
	}
	for _, n := range []int{math.MinInt, math.MaxInt} {
		x := begun("GET", 100, 10)
		x.Sent = n
		checkValid(t, x, false)
	}
	checkValid(t, api.MsState{}, false)
}

func TestLimitsOfExchanges(t *testing.T) { // P10.1
	for _, n := range []int{math.MinInt, -1, 0, 63, 64, 65536, 65537, math.MaxInt} {
		checkValid(t, begun("GET", n, 10), n == 64 || n == 65536)
		checkValid(t, begun("GET", 100, n), n >= 0 && n <= 65536)
	}
	for _, phase := range []int{math.MinInt, -1, 3, math.MaxInt} {
		x := begun("GET", 100, 10)
		x.Phase = phase
		checkValid(t, x, false)
	}
}

func TestReadersOfExchanges(t *testing.T) { // P10.1
	x := begun("GET", 100, 10)
	x.Sent = 1
	for _, in := range []api.RsState{
		{}, {Method: "HEAD"}, {Method: "get"}, {Method: "GET "},
		{Method: "GET", Phase: -1}, {Method: "GET", Phase: 3}, {Method: "GET", Phase: 1}, {Method: "GET", Phase: 2}, {Method: "GET", Infos: 11}, {Method: "GET", Infos: -1},
		{Method: "GET", Line: "\n"}, {Method: "GET", Body: "x"}, {Method: "GET", Left: 1}, {Method: "GET", Left: -1}, {Method: "GET", Left: math.MaxInt}, {Method: "GET", Left: math.MinInt}, {Method: "GET", Framing: 1},
		{Method: "GET", Head: api.RsHead{Minor: 1}}, {Method: "GET", Chunks: api.ChState{Line: "1"}}, {Method: "GET", Chunks: api.ChState{Data: "1"}},
		{Method: "GET", Phase: api.RsBody, Head: api.RsHead{Status: 200, Fields: fields("Content-Length", "5")}, Framing: api.RsLength, Left: 4},
		{Method: "GET", Phase: api.RsBody, Head: api.RsHead{Status: 200, Fields: fields("Content-Length", "5")}, Framing: api.RsLength, Left: math.MaxInt, Body: "abcde"},
	} {
		x.In = in
		checkValid(t, x, false)
	}
	for _, in := range []api.RsState{
		{Method: "GET", Line: "x"}, {Method: "GET", Infos: 10},
		{Method: "GET", Phase: api.RsBody, Head: api.RsHead{Status: 200, Fields: fields("Content-Length", "5")}, Framing: api.RsLength, Left: 5},
		{Method: "GET", Head: api.RsHead{Fields: []api.HdField{}}, Chunks: api.ChState{Trailers: []api.HdField{}}},
	} {
		x.In = in
		checkValid(t, x, true)
	}
}

func TestLimitsOfReaders(t *testing.T) { // P10.1
	for n := 62; n < 70; n++ {
		x := begun("GET", n, 10)
		x.Sent, x.In.Line = 1, strings.Repeat("x", 66)
		checkValid(t, x, n >= 66)
		x = broken(x, api.FaTooLarge)
		checkValid(t, x, n >= 66)
	}
	whole := "HTTP/1.1 200 OK\r\nContent-Length: 5\r\n\r\nabcde"
	in := coded + "2\r\nab\r\n3\r\ncde"
	for n := range 8 {
		for _, s := range []string{whole, whole[:len(whole)-1], whole[:len(whole)-5], in, in + "\r\n0\r\n\r\n", ending + "abcde"} {
			x := after(begun("GET", 65536, 65536), sent(1), got(s))
			x.MaxBody = n
			checkValid(t, x, n >= 5)
			compareValid(t, x)
		}
		// What is left of a chunk is not part of the content before it has arrived.
		x := after(begun("GET", 65536, 65536), sent(1), got(coded+"2\r\nab\r\n3\r\nc"))
		x.MaxBody = n
		checkValid(t, x, n >= 3)
		x = after(begun("GET", 65536, 65536), sent(1), got(ending+"abcd"), closed)
		x.MaxBody = n
		checkValid(t, x, n >= 4)
	}
}

func TestTableOfPhases(t *testing.T) { // P10.1
	counts := map[bool]int{}
	for _, in := range []api.MsState{
		begun("GET", 100, 10), after(begun("GET", 100, 10), sent(1)), after(begun("GET", 100, 10), sent(44)),
		after(begun("GET", 100, 10), sent(44), got("H")), after(begun("GET", 100, 10), sent(44), got(info)), after(begun("GET", 100, 10), sent(44), got(info+"H")),
		after(begun("GET", 100, 10), sent(44), got(counted)), after(begun("GET", 100, 10), sent(44), got(ending)), after(begun("GET", 100, 10), sent(44), got(coded)),
		after(begun("GET", 100, 10), sent(44), got(answer)), after(begun("GET", 100, 10), sent(40), got(empty)), after(begun("GET", 100, 10), sent(44), got(ending), closed), after(begun("GET", 100, 10), sent(44), got(coded+"0\r\n\r\n")),
	} {
		for n := range 2 {
			for phase := -1; phase <= 3; phase++ {
				for why := api.FaKind(-1); why <= 18; why++ {
					for _, ended := range []bool{false, true} {
						x := in
						x.Sent, x.Phase, x.Why, x.Ended = x.Sent*n, phase, why, ended
						compareValid(t, x)
						counts[valid(x)]++
					}
				}
			}
		}
	}
	if counts[true] < 50 || counts[false] < 1000 {
		t.Errorf("%v", counts)
	}
}

func TestTableOfPhasesByRows(t *testing.T) { // P10.1
	unasked, beginning := begun("GET", 100, 10), after(begun("GET", 100, 10), sent(44))
	within, whole := after(beginning, got(info)), after(beginning, got(answer))
	for _, c := range []struct {
		phase                              int
		why                                api.FaKind
		ended                              bool
		unasked, beginning, within, wholly bool
	}{
		{api.MsOpen, 0, false, true, true, true, false},
		{api.MsOpen, 0, true, false, false, false, false},
		{api.MsDone, 0, false, false, false, false, true},
		{api.MsDone, 0, true, false, false, false, true},
		{api.MsBroken, 0, false, false, false, false, false},
		{api.MsBroken, 0, true, false, false, false, false},
		{api.MsBroken, api.FaMalformed, false, true, true, true, false},
		{api.MsBroken, api.FaMalformed, true, false, false, false, false},
		{api.MsBroken, api.FaTooLarge, false, true, true, true, false},
		{api.MsBroken, api.FaTooLarge, true, false, false, false, false},
		{api.MsBroken, api.FaSurplus, false, true, false, false, true},
		{api.MsBroken, api.FaSurplus, true, false, false, false, false},
		{api.MsBroken, api.FaClosed, true, true, true, false, false},
		{api.MsBroken, api.FaClosed, false, false, false, false, false},
		{api.MsBroken, api.FaTruncated, true, false, false, true, false},
		{api.MsBroken, api.FaTruncated, false, false, false, false, false},
		{api.MsBroken, api.FaReset, true, true, true, true, false},
		{api.MsBroken, api.FaReset, false, false, false, false, false},
		{api.MsBroken, api.FaDeadline, false, true, true, true, false},
		{api.MsBroken, api.FaDeadline, true, false, false, false, false},
		{api.MsBroken, api.FaCanceled, false, true, true, true, false},
		{api.MsBroken, api.FaCanceled, true, false, false, false, false},
		{api.MsBroken, api.FaShutdown, false, true, true, true, false},
		{api.MsBroken, api.FaShutdown, true, false, false, false, false},
		{api.MsBroken, api.FaDial, false, false, false, false, false},
		{api.MsBroken, api.FaDial, true, false, false, false, false},
		{api.MsOpen, api.FaReset, false, false, false, false, false},
		{api.MsDone, api.FaSurplus, false, false, false, false, false},
		{api.MsDone, api.FaReset, true, false, false, false, false},
	} {
		for i, x := range []api.MsState{unasked, beginning, within, whole} {
			x.Phase, x.Why, x.Ended = c.phase, c.why, c.ended
			checkValid(t, x, []bool{c.unasked, c.beginning, c.within, c.wholly}[i])
		}
	}
}

func TestChangedExchanges(t *testing.T) { // P10.1
	all := exchanges()
	next := numbers(1)
	counts := map[bool]int{}
	for range 10000 {
		x, y := all[next(len(all))], all[next(len(all))]
		switch next(8) {
		case 0:
			x.In = y.In
		case 1:
			x.Phase, x.Why = y.Phase, y.Why
		case 2:
			x.Ended = !x.Ended
		case 3:
			x.Sent = y.Sent
		case 4:
			x.Why, x.Ended = y.Why, y.Ended
		case 5:
			x.Request, x.Out = y.Request, y.Out
		case 6:
			x.MaxHeader, x.MaxBody = 64+next(40), next(11)
		case 7:
			x.In.Phase, x.In.Infos = y.In.Phase, y.In.Infos
		}
		compareValid(t, x)
		counts[valid(x)]++
	}
	if counts[true] < 1000 || counts[false] < 1000 {
		t.Errorf("%v", counts)
	}
}

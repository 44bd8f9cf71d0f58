package message_test

import (
	"fmt"
	"slices"
	"strings"

	"spillway/api"
	"spillway/request"
	"spillway/response"
)

// field returns a field.
func field(name, value string) api.HdField { return api.HdField{Name: name, Value: value} }

// fields returns fields with these names and values in turn.
func fields(all ...string) []api.HdField {
	var l []api.HdField
	for i := 0; i < len(all); i += 2 {
		l = append(l, field(all[i], all[i+1]))
	}
	return l
}

// out is the message of R of the chapter's examples.
const out = "GET / HTTP/1.1\r\nHost: h\r\nX-Request-Id: 7\r\n\r\n"

// asked is R with a method.
func asked(method string) api.Request {
	return api.Request{Id: 7, Method: method, Target: "/", Host: "h"}
}

// begun is the exchange for R with a method, GET or HEAD.
func begun(method string, maxHeader, maxBody int) api.MsState {
	return api.MsState{Request: asked(method), Out: method + out[3:], In: api.RsState{Method: method}, MaxHeader: maxHeader, MaxBody: maxBody}
}

// changed is an exchange with a change.
func changed(x api.MsState, change func(x *api.MsState)) api.MsState {
	change(&x)
	return x
}

// The events.
func sent(n int) api.MsEvent { return api.MsEvent{Kind: api.MsSent, N: n} }

func got(s string) api.MsEvent { return api.MsEvent{Kind: api.MsGot, Bytes: s} }

func abort(why api.FaKind) api.MsEvent { return api.MsEvent{Kind: api.MsAbort, Why: why} }

var (
	closed = api.MsEvent{Kind: api.MsClosed}
	reset  = api.MsEvent{Kind: api.MsReset}
)

// aborts is the kinds of faults because of which exchanges are given up.
var aborts = []api.FaKind{api.FaDeadline, api.FaCanceled, api.FaShutdown}

// Heads of responses, and a response.
const (
	info    = "HTTP/1.1 100 \r\n\r\n"
	counted = "HTTP/1.1 200 OK\r\nContent-Length: 2\r\n\r\n"
	coded   = "HTTP/1.1 200 OK\r\nTransfer-Encoding: chunked\r\n\r\n"
	ending  = "HTTP/1.1 200 OK\r\n\r\n"
	empty   = "HTTP/1.1 204 \r\n\r\n"
	answer  = counted + "ab"
)

// numbers returns numbers below n that look like random ones.
func numbers(seed uint64) func(n int) int {
	return func(n int) int {
		seed = seed*6364136223846793005 + 1442695040888963407
		return int(seed >> 33 % uint64(n))
	}
}

// short is the beginning of x as a text for messages.
func short(x any) string {
	s := fmt.Sprintf("%+q", x)
	return s[:min(len(s), 600)]
}

// sameRequest reports whether two requests are the same.
func sameRequest(a, b api.Request) bool {
	return a.Id == b.Id && a.Method == b.Method && a.Target == b.Target && a.Host == b.Host && a.Body == b.Body && slices.Equal(a.Fields, b.Fields)
}

// sameHead reports whether two heads are the same.
func sameHead(a, b api.RsHead) bool {
	return a.Minor == b.Minor && a.Status == b.Status && a.Reason == b.Reason && slices.Equal(a.Fields, b.Fields)
}

// sameReader reports whether two readers are at the same place.
func sameReader(a, b api.RsState) bool {
	return a.Method == b.Method && a.Phase == b.Phase && a.Infos == b.Infos && a.Line == b.Line && sameHead(a.Head, b.Head) &&
		a.Framing == b.Framing && a.Body == b.Body && a.Left == b.Left && a.Chunks.Phase == b.Chunks.Phase && a.Chunks.Line == b.Chunks.Line &&
		a.Chunks.Data == b.Chunks.Data && a.Chunks.Left == b.Chunks.Left && slices.Equal(a.Chunks.Trailers, b.Chunks.Trailers)
}

// same reports whether two exchanges are the same.
func same(a, b api.MsState) bool {
	return sameRequest(a.Request, b.Request) && a.Out == b.Out && a.Sent == b.Sent && sameReader(a.In, b.In) &&
		a.MaxHeader == b.MaxHeader && a.MaxBody == b.MaxBody && a.Phase == b.Phase && a.Ended == b.Ended && a.Why == b.Why
}

// sameVerdict reports whether two verdicts are the same.
func sameVerdict(a, b api.MsVerdict) bool {
	r, q := a.Response, b.Response
	return a.Why == b.Why && a.Reuse == b.Reuse && sameHead(r.Head, q.Head) && r.Framing == q.Framing && r.Body == q.Body && slices.Equal(r.Trailers, q.Trailers) && r.Keep == q.Keep
}

// size is how large the content is, as far as it is known.
func size(in api.RsState) int { return len(in.Body) + len(in.Chunks.Data) + in.Left }

// place says in words where the reader of an exchange is.
func place(x api.MsState) []string {
	switch {
	case x.In.Phase == api.RsWhole:
		return []string{"whole"}
	case x.In.Phase != api.RsHeading || x.In.Line != "" || x.In.Infos != 0:
		return []string{"within"}
	case x.Sent == 0:
		return []string{"beginning", "unasked"}
	}
	return []string{"beginning"}
}

// row is a line of the table of valid states; places has words of place, of which one has to be true.
type row struct {
	phase  int
	whys   []api.FaKind
	ended  []bool
	places []string
}

// rows is the table of valid states.
var rows = []row{
	{api.MsOpen, []api.FaKind{0}, []bool{false}, []string{"beginning", "within"}},
	{api.MsDone, []api.FaKind{0}, []bool{true, false}, []string{"whole"}},
	{api.MsBroken, []api.FaKind{api.FaMalformed, api.FaTooLarge}, []bool{false}, []string{"beginning", "within"}},
	{api.MsBroken, []api.FaKind{api.FaSurplus}, []bool{false}, []string{"whole", "unasked"}},
	{api.MsBroken, []api.FaKind{api.FaClosed}, []bool{true}, []string{"beginning"}},
	{api.MsBroken, []api.FaKind{api.FaTruncated}, []bool{true}, []string{"within"}},
	{api.MsBroken, []api.FaKind{api.FaReset}, []bool{true}, []string{"beginning", "within"}},
	{api.MsBroken, []api.FaKind{api.FaDeadline, api.FaCanceled, api.FaShutdown}, []bool{false}, []string{"beginning", "within"}},
}

// valid is whether an exchange is one.
func valid(x api.MsState) bool {
	s, e := request.Encode(x.Request)
	if e != api.OK || x.Out != s || x.Sent < 0 || x.Sent > len(s) {
		return false
	}
	if x.MaxHeader < 64 || x.MaxHeader > 65536 || x.MaxBody < 0 || x.MaxBody > 65536 {
		return false
	}
	if _, _, e := response.Feed(x.In, nil); e != api.OK || x.In.Method != x.Request.Method {
		return false
	}
	here := place(x)
	if len(x.In.Line) > x.MaxHeader || size(x.In) > x.MaxBody || x.Sent == 0 && !slices.Contains(here, "beginning") {
		return false
	}
	return slices.ContainsFunc(rows, func(r row) bool {
		one := slices.ContainsFunc(r.places, func(s string) bool { return slices.Contains(here, s) })
		return r.phase == x.Phase && slices.Contains(r.whys, x.Why) && slices.Contains(r.ended, x.Ended) && one
	})
}

// next is what Next should return.
func next(x api.MsState, n int) (string, api.Errno) {
	switch {
	case !valid(x):
		return "", api.ErrForm
	case n < 0:
		return "", api.ErrRange
	case x.Phase == api.MsBroken:
		return "", api.ErrDown
	}
	return x.Out[x.Sent : x.Sent+min(n, len(x.Out)-x.Sent)], api.OK
}

// broken is an exchange that is broken by a fault.
func broken(x api.MsState, why api.FaKind) api.MsState {
	x.Phase, x.Why = api.MsBroken, why
	return x
}

// read is an open exchange after bytes that are read one after the other.
func read(x api.MsState, s string) api.MsState {
	if x.Sent == 0 && s != "" {
		return broken(x, api.FaSurplus)
	}
	for i := range len(s) {
		if x.Phase == api.MsDone {
			return broken(x, api.FaSurplus)
		}
		if x.In.Phase == api.RsHeading && len(x.In.Line) == x.MaxHeader {
			return broken(x, api.FaTooLarge)
		}
		in, _, e := response.Feed(x.In, []byte{s[i]})
		if e == api.ErrForm {
			return broken(x, api.FaMalformed)
		}
		if e == api.ErrLong || size(in) > x.MaxBody {
			return broken(x, api.FaTooLarge)
		}
		x.In = in
		if in.Phase == api.RsWhole {
			x.Phase = api.MsDone
		}
	}
	return x
}

// end is an exchange that is not broken after the end of its connection, with a fault if a response that has begun, or one that has not, cannot end so.
func end(x api.MsState) api.MsState {
	x.Ended = true
	in, e := response.End(x.In)
	switch {
	case x.Phase == api.MsDone:
		return x
	case e == api.OK:
		x.In, x.Phase = in, api.MsDone
		return x
	case slices.Contains(place(x), "beginning"):
		return broken(x, api.FaClosed)
	}
	return broken(x, api.FaTruncated)
}

// errorOf is the error of an event.
func errorOf(x api.MsState, v api.MsEvent) api.Errno {
	uses := map[int]string{api.MsSent: "N", api.MsGot: "Bytes", api.MsClosed: "-", api.MsReset: "-", api.MsAbort: "Why"}[v.Kind]
	switch {
	case !valid(x):
		return api.ErrForm
	case uses == "", v.N != 0 && uses != "N", v.Bytes != "" && uses != "Bytes", v.Why != 0 && uses != "Why", uses == "Why" && !slices.Contains(aborts, v.Why):
		return api.ErrArg
	case v.N < 0, v.N > len(x.Out)-x.Sent:
		return api.ErrRange
	case x.Phase == api.MsBroken, x.Ended, x.Phase == api.MsDone && v.Kind == api.MsAbort:
		return api.ErrDown
	}
	return api.OK
}

// step is what Step should return.
func step(x api.MsState, v api.MsEvent) (api.MsState, api.Errno) {
	if e := errorOf(x, v); e != api.OK {
		return api.MsState{}, e
	}
	done := x.Phase == api.MsDone
	switch v.Kind {
	case api.MsSent:
		x.Sent += v.N
	case api.MsGot:
		if done && v.Bytes != "" {
			x = broken(x, api.FaSurplus)
		}
		if !done {
			x = read(x, v.Bytes)
		}
	case api.MsClosed:
		x = end(x)
	case api.MsReset:
		x.Ended = true
		if !done {
			x = broken(x, api.FaReset)
		}
	case api.MsAbort:
		x = broken(x, v.Why)
	}
	return x, api.OK
}

// play is what Play should return.
func play(x api.MsState, l []api.MsEvent) ([]api.Errno, api.MsState, api.Errno) {
	if !valid(x) {
		return nil, api.MsState{}, api.ErrForm
	}
	if len(l) > 500 {
		return nil, api.MsState{}, api.ErrLong
	}
	var all []api.Errno
	for _, v := range l {
		y, e := step(x, v)
		if e == api.OK {
			x = y
		}
		all = append(all, e)
	}
	return all, x, api.OK
}

// after is an exchange after events.
func after(x api.MsState, l ...api.MsEvent) api.MsState {
	_, x, _ = play(x, l)
	return x
}

// verdict is what Verdict should return.
func verdict(x api.MsState) (api.MsVerdict, api.Errno) {
	switch {
	case !valid(x):
		return api.MsVerdict{}, api.ErrForm
	case x.Phase == api.MsOpen:
		return api.MsVerdict{}, api.ErrDown
	case x.Phase == api.MsBroken:
		return api.MsVerdict{Why: x.Why}, api.OK
	}
	r, _ := response.Response(x.In)
	return api.MsVerdict{Response: r, Reuse: r.Keep && !x.Ended && x.Sent == len(x.Out)}, api.OK
}

// texts is bytes that may arrive: responses, and others.
var texts = []string{
	answer, "HTTP/1.0 200 OK\r\nContent-Length: 2\r\n\r\nab", "HTTP/1.1 200 OK\r\nConnection: close\r\nContent-Length: 0\r\n\r\n",
	info + coded + "2;x\r\nab\r\n1\r\nc\r\n0\r\nname: value\r\n\r\n", ending + "abc", empty, "HTTP/1.1 304 \r\nContent-Length: 9\r\n\r\n",
	"HTTP/1.1 200 OK\r\nContent-Length: 11\r\n\r\n", "HTTP/1.1 200 OK\r\nContent-Length: 70000\r\n\r\n", "HTTP/1.1 200 OK\r\nContent-Length: x\r\n\r\n",
	"HTTP/1.1 101 \r\n\r\n", strings.Repeat(info, 11), "HTTP/1.1 200 OK\r\nA: " + strings.Repeat("v", 100) + "\r\n\r\n", strings.Repeat("x", 400), "\n",
}

// exchanges is many exchanges: with each of their events at each place.
func exchanges() []api.MsState {
	var all []api.MsState
	for _, method := range []string{"GET", "HEAD"} {
		x := begun(method, 100, 10)
		for _, n := range []int{0, 1, len(x.Out)} {
			all = append(all, after(x, sent(n)))
		}
		for i, s := range texts {
			for n := range len(s) {
				y := after(x, sent(40), got(s[:n+1]))
				all = append(all, y)
				if n%7 == i%7 || n > len(s)-3 {
					all = append(all, after(y, closed), after(y, reset), after(y, abort(aborts[n%3])), after(y, got("x")), after(y, sent(len(x.Out)-40)))
				}
			}
		}
	}
	return all
}

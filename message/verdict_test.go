package message_test

import (
	"testing"

	"spillway/api"
	"spillway/message"
)

// checkVerdict fails if Verdict does not return these results.
func checkVerdict(t *testing.T, x api.MsState, want api.MsVerdict, e api.Errno) {
	t.Helper()
	v, got := message.Verdict(x)
	if !sameVerdict(v, want) || got != e {
		t.Errorf("Verdict(%s): %s, %d, want %s, %d", short(x), short(v), got, short(want), e)
	}
}

// checkFault fails if the verdict after events is not a fault.
func checkFault(t *testing.T, x api.MsState, why api.FaKind, l ...api.MsEvent) {
	t.Helper()
	_, y, e := message.Play(x, l)
	if e != api.OK {
		t.Fatalf("Play(%s, %s): %d", short(x), short(l), e)
	}
	checkVerdict(t, y, api.MsVerdict{Why: why}, api.OK)
}

// checkAnswer fails if the verdict after events is not a response.
func checkAnswer(t *testing.T, x api.MsState, r api.RsResponse, reuse bool, l ...api.MsEvent) {
	t.Helper()
	_, y, e := message.Play(x, l)
	if e != api.OK {
		t.Fatalf("Play(%s, %s): %d", short(x), short(l), e)
	}
	checkVerdict(t, y, api.MsVerdict{Response: r, Reuse: reuse}, api.OK)
}

// plain is the response answer.
var plain = api.RsResponse{Head: api.RsHead{Minor: 1, Status: 200, Reason: "OK", Fields: fields("Content-Length", "2")}, Framing: api.RsLength, Body: "ab", Keep: true}

func TestVerdictsOfExamples(t *testing.T) { // P10.5
	x := begun("GET", 100, 10)
	checkAnswer(t, x, plain, true, sent(44), got(answer))
	checkAnswer(t, x, plain, false, sent(40), got(answer))
	checkFault(t, x, api.FaSurplus, sent(44), got(answer), got("c"))
	checkFault(t, x, api.FaSurplus, sent(44), got(answer+"c"))
	checkFault(t, x, api.FaTooLarge, sent(44), got("HTTP/1.1 200 OK\r\nContent-Length: 11\r\n\r\n"))
	checkFault(t, x, api.FaClosed, sent(44), closed)
	checkFault(t, x, api.FaTruncated, sent(44), got("H"), closed)
	checkFault(t, x, api.FaSurplus, got("H"))
	checkAnswer(t, x, api.RsResponse{Head: api.RsHead{Status: 200, Reason: "OK"}, Framing: api.RsClose, Body: "ab"}, false, sent(44), got("HTTP/1.0 200 OK\r\n\r\nab"), closed)
}

func TestVerdictsThatMayNotBeAsked(t *testing.T) { // P10.5
	x := begun("GET", 100, 10)
	for _, l := range [][]api.MsEvent{nil, {sent(44)}, {sent(44), got("H")}, {sent(44), got(info)}, {sent(44), got(counted)}, {sent(44), got(ending + "ab")}, {sent(44), got(answer[:len(answer)-1])}, {sent(44), got(coded + "0\r\n\r")}} {
		checkVerdict(t, after(x, l...), api.MsVerdict{}, api.ErrDown)
	}
}

func TestReuse(t *testing.T) { // P10.5, P10.7
	x := begun("GET", 100, 10)
	for n := 1; n <= 44; n++ {
		checkAnswer(t, x, plain, n == 44, sent(n), got(answer))
		checkAnswer(t, x, plain, true, sent(n), got(answer), sent(44-n))
		checkAnswer(t, x, plain, true, sent(n), got(answer), sent(44-n), got(""))
		checkAnswer(t, x, plain, false, sent(n), got(answer), sent(44-n), closed)
		checkAnswer(t, x, plain, false, sent(n), got(answer), sent(44-n), reset)
	}
	for _, c := range []struct {
		s      string
		minor  int
		fields []api.HdField
		keep   bool
	}{
		{"HTTP/1.1 204 OK\r\n\r\n", 1, nil, true},
		{"HTTP/1.0 204 OK\r\n\r\n", 0, nil, false},
		{"HTTP/1.1 204 OK\r\nConnection: x, Close\r\n\r\n", 1, fields("Connection", "x, Close"), false},
		{"HTTP/1.1 204 OK\r\nConnection: \"\r\n\r\n", 1, fields("Connection", "\""), false},
		{"HTTP/1.0 204 OK\r\nConnection: Keep-Alive\r\n\r\n", 0, fields("Connection", "Keep-Alive"), true},
	} {
		r := api.RsResponse{Head: api.RsHead{Minor: c.minor, Status: 204, Reason: "OK", Fields: c.fields}, Keep: c.keep}
		checkAnswer(t, x, r, c.keep, sent(44), got(c.s))
		checkAnswer(t, x, r, c.keep, sent(44), got(info+info), got(c.s))
		checkAnswer(t, x, r, false, sent(43), got(c.s))
		checkAnswer(t, x, r, false, sent(44), got(c.s), closed)
		checkAnswer(t, x, r, false, sent(44), got(c.s), reset)
	}
}

func TestVerdictsOfResponses(t *testing.T) { // P10.5
	x := begun("GET", 100, 10)
	head := func(all ...string) api.RsHead {
		return api.RsHead{Minor: 1, Status: 200, Reason: "OK", Fields: fields(all...)}
	}
	r := api.RsResponse{Head: head("Transfer-Encoding", "chunked"), Framing: api.RsChunked, Body: "abc", Trailers: fields("name", "value"), Keep: true}
	checkAnswer(t, x, r, true, sent(44), got(coded+"2\r\nab\r\n1;x\r\nc\r\n0\r\nname: value\r\n\r\n"))
	r = api.RsResponse{Head: head(), Framing: api.RsClose, Body: "abc"}
	checkAnswer(t, x, r, false, sent(44), got(info+ending), got("abc"), closed)
	r.Body = ""
	checkAnswer(t, x, r, false, sent(40), got(ending), closed)
	// A response that was not asked for with HEAD has no content.
	r = api.RsResponse{Head: head("Content-Length", "2"), Keep: true}
	checkAnswer(t, begun("HEAD", 100, 10), r, true, sent(45), got(counted))
	checkFault(t, begun("HEAD", 100, 10), api.FaSurplus, sent(45), got(answer))
}

func TestVerdictsOfFaults(t *testing.T) { // P10.5
	x := begun("GET", 100, 10)
	checkFault(t, x, api.FaClosed, closed)
	checkFault(t, x, api.FaReset, reset)
	checkFault(t, x, api.FaReset, sent(44), got(counted+"a"), reset)
	checkFault(t, x, api.FaMalformed, sent(44), got("\n"))
	for _, why := range aborts {
		checkFault(t, x, why, abort(why))
		checkFault(t, x, why, sent(44), got(counted+"a"), abort(why))
	}
	for _, y := range exchanges() {
		want, e := verdict(y)
		checkVerdict(t, y, want, e)
	}
}

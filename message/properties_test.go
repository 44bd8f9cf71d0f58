package message_test

import (
	"strings"
	"testing"

	"spillway/api"
	"spillway/message"
	"spillway/response"
)

// anyResponse is the bytes of a response, and of some heads that are passed over, and the response.
func anyResponse(next func(n int) int) (s string, r api.RsResponse) {
	h := api.RsHead{Minor: 1, Status: 200 + next(4), Reason: []string{"", "OK", " no \t reason "}[next(3)]}
	for range next(3) {
		h.Fields = append(h.Fields, field([]string{"a", "Connection", "x-Y"}[next(3)], []string{"", "b c", "Close", "keep-alive"}[next(4)]))
	}
	body := "0\r\n\r\nHTTP/1.1 200 \r\n\r\n"[:next(23)]
	kind := api.RsLength + next(3)
	b, _ := response.Print(h, []byte(body), kind)
	in, _ := response.Start("GET")
	in, _, _ = response.Feed(in, b)
	in, _ = response.End(in)
	r, _ = response.Response(in)
	return strings.Repeat(info, next(11)) + string(b), r
}

// inPieces is events with which bytes are read in pieces of some lengths.
func inPieces(s string, length func() int) []api.MsEvent {
	var l []api.MsEvent
	for s != "" {
		n := min(length(), len(s))
		l = append(l, got(s[:n]))
		s = s[n:]
	}
	return l
}

func TestResponsesInPieces(t *testing.T) { // P10.6
	next := numbers(3)
	for range 2000 {
		s, r := anyResponse(next)
		most := 1 + next(40)
		l := append([]api.MsEvent{sent(44)}, inPieces(s, func() int { return 1 + next(most) })...)
		x := begun("GET", 400, 30)
		byEnd := r.Framing == api.RsClose
		if byEnd {
			checkAnswer(t, x, r, false, append(l, closed)...)
		} else {
			checkAnswer(t, x, r, r.Keep, l...)
			checkAnswer(t, x, r, false, append(l, closed)...)
			checkFault(t, x, api.FaSurplus, append(l, got("x"))...)
			checkFault(t, x, api.FaSurplus, sent(44), got(s+"xyz"))
		}
		n := next(len(s))
		if head := len(s) - len(r.Body); byEnd && n >= head {
			r.Body = r.Body[:n-head]
			checkAnswer(t, x, r, false, sent(44), got(s[:n]), closed)
			continue
		}
		why := api.FaTruncated
		if n == 0 {
			why = api.FaClosed
		}
		checkFault(t, x, why, sent(44), got(s[:n]), closed)
	}
}

func TestEachBeginningOfAResponse(t *testing.T) { // P10.6
	for _, s := range []string{answer, info + answer, empty, info + coded + "2;x\r\nab\r\n1\r\nc\r\n0\r\nname: value\r\n\r\n"} {
		x := begun("GET", 100, 10)
		in, _, _ := response.Feed(x.In, []byte(s))
		r, _ := response.Response(in)
		for n := range s {
			checkAnswer(t, x, r, true, sent(44), got(s[:n]), got(s[n:]))
			checkFault(t, x, api.FaSurplus, sent(44), got(s[:n]), got(s[n:]+"x"))
			if n > 0 {
				checkFault(t, x, api.FaTruncated, sent(44), got(s[:n]), closed)
			}
			checkVerdict(t, after(x, sent(44), got(s[:n])), api.MsVerdict{}, api.ErrDown)
		}
	}
}

func TestConnectionsThatMayBeUsedAgain(t *testing.T) { // P10.7
	next := numbers(4)
	reused := 0
	for range 5000 {
		x := begun("GET", 200, 30)
		s, _ := anyResponse(next)
		var l []api.MsEvent
		n := next(45)
		l = append(l, sent(n))
		most := 1 + next(100)
		l = append(l, inPieces(s, func() int { return 1 + next(most) })...)
		l = append(l, sent([]int{44 - n, next(45)}[next(2)]))
		if next(3) == 0 {
			l = append(l, anyEvent(next))
		}
		all, y, _ := message.Play(x, l)
		v, e := message.Verdict(y)
		if e != api.OK || !v.Reuse {
			continue
		}
		reused++
		written, read := 0, ""
		for i, v := range l {
			if all[i] != api.OK {
				continue
			}
			written += v.N
			read += v.Bytes
			if v.Kind != api.MsSent && v.Kind != api.MsGot {
				t.Errorf("%s: Reuse, after %s", short(l), short(v))
			}
		}
		in, used, e := response.Feed(x.In, []byte(read))
		r, f := response.Response(in)
		if written != 44 || used != len(read) || e != api.OK || f != api.OK || !r.Keep || !sameVerdict(v, api.MsVerdict{Response: r, Reuse: true}) {
			t.Errorf("%s: Reuse: %s", short(l), short(v))
		}
	}
	if reused < 500 {
		t.Errorf("only %d connections may be used again", reused)
	}
}

// checkPieces fails if bytes that are read in pieces lead to something else than all at once.
func checkPieces(t *testing.T, x api.MsState, s string, length func() int) {
	t.Helper()
	_, y, e := message.Play(x, []api.MsEvent{got(s)})
	_, z, f := message.Play(x, inPieces(s, length))
	if e != api.OK || f != api.OK || !same(y, z) {
		t.Errorf("%s in pieces: %s, %d, at once: %s, %d", short(s), short(z), f, short(y), e)
	}
}

func TestBytesInPieces(t *testing.T) { // P10.8
	next := numbers(5)
	for range 3000 {
		x := written(64+next(200), next(30))
		s, _ := anyResponse(next)
		if next(2) == 0 {
			s = texts[next(len(texts))]
		}
		if next(2) == 0 {
			n := next(len(s))
			s = s[:n] + []string{"", "x", "\n", "\r\n", "0"}[next(5)] + s[min(n+next(3), len(s)):]
		}
		s += []string{"", "x", answer}[next(3)]
		s = s[:min(len(s), 500)] // as many events as are played at once
		checkPieces(t, x, s, func() int { return 1 })
		most := 1 + next(60)
		checkPieces(t, x, s, func() int { return 1 + next(most) })
		n := next(len(s) + 1)
		checkPieces(t, x, s, func() int { return n + 1 })
	}
}

func TestMuchInPieces(t *testing.T) { // P10.8
	all := strings.Repeat("0\r\n\r\n1\x00", 10000)[:65536]
	heads := strings.Repeat(strings.Replace(info, "100 ", "100 "+strings.Repeat("x", 200), 1), 10)
	for _, s := range []string{heads + "HTTP/1.1 200 OK\r\nContent-Length: 65536\r\n\r\n" + all, heads + coded + "10000\r\n" + all + "\r\n0\r\n\r\n", heads + ending + all} {
		for _, more := range []string{"", "x"} {
			for _, n := range []int{199, 1000, 65537} {
				for _, most := range []int{64, 216, 217, 218, 65536} {
					checkPieces(t, written(most, 65536), s+more, func() int { return n })
					checkPieces(t, written(most, 65535), s+more, func() int { return n })
				}
			}
		}
	}
}

package message_test

import (
	"fmt"
	"strings"
	"testing"

	"spillway/api"
	"spillway/message"
)

// checkGot fails if bytes that are read after the request was written do not lead to a fault, or, without one, to a phase.
func checkGot(t *testing.T, x api.MsState, s string, phase int, why api.FaKind) {
	t.Helper()
	y, e := message.Step(x, got(s))
	if e != api.OK || y.Phase != phase || y.Why != why || y.Ended {
		t.Errorf("Step(%s, %s): %s, %d, want the phase %d, %d", short(x), short(s), short(y), e, phase, why)
	}
	compareStep(t, x, got(s))
}

// written is an exchange of which the message was written.
func written(maxHeader, maxBody int) api.MsState {
	return after(begun("GET", maxHeader, maxBody), sent(44))
}

func TestGotOfExamples(t *testing.T) { // P10.3
	x := written(100, 10)
	head := api.RsHead{Minor: 1, Status: 200, Reason: "OK", Fields: fields("Content-Length", "2")}
	whole := changed(x, func(x *api.MsState) {
		x.Phase = api.MsDone
		x.In = api.RsState{Method: "GET", Phase: api.RsWhole, Head: head, Framing: api.RsLength, Body: "ab"}
	})
	checkStep(t, x, got(answer), whole, api.OK)
	checkStep(t, x, got(answer+"c"), broken(whole, api.FaSurplus), api.OK)
	checkStep(t, whole, got("c"), broken(whole, api.FaSurplus), api.OK)
	checkStep(t, whole, got(""), whole, api.OK)
	s := "HTTP/1.1 200 OK\r\nContent-Length: 11\r\n\r\n"
	checkStep(t, x, got(s), broken(changed(x, func(x *api.MsState) { x.In.Line = s[:len(s)-1] }), api.FaTooLarge), api.OK)
	checkStep(t, begun("GET", 100, 10), got("H"), broken(begun("GET", 100, 10), api.FaSurplus), api.OK)
	checkStep(t, begun("GET", 100, 10), got(""), begun("GET", 100, 10), api.OK)
	checkStep(t, x, got("H"), changed(x, func(x *api.MsState) { x.In.Line = "H" }), api.OK)
}

func TestGotBeforeAnythingWasWritten(t *testing.T) { // P10.3
	x := begun("GET", 100, 10)
	for _, s := range []string{"x", "\n", answer, answer + "x", info, strings.Repeat("x", 1000)} {
		checkStep(t, x, got(s), broken(x, api.FaSurplus), api.OK)
		checkStep(t, after(x, sent(0)), got(s), broken(x, api.FaSurplus), api.OK)
	}
	// One byte of the message is enough.
	checkGot(t, after(x, sent(1)), answer, api.MsDone, 0)
}

func TestGotOfSurplus(t *testing.T) { // P10.3
	x := written(100, 10)
	for _, s := range []string{answer, empty, info + empty, coded + "0\r\n\r\n", "HTTP/1.1 200 OK\r\nContent-Length: 0\r\n\r\n", "HTTP/1.0 204 \r\n\r\n"} {
		whole := after(x, got(s))
		checkStep(t, x, got(s), whole, api.OK)
		checkGot(t, x, s, api.MsDone, 0)
		for _, more := range []string{"x", "\n", "\x00", answer, strings.Repeat("x", 1000)} {
			checkStep(t, x, got(s+more), broken(whole, api.FaSurplus), api.OK)
			checkStep(t, whole, got(more), broken(whole, api.FaSurplus), api.OK)
		}
		checkStep(t, whole, got(""), whole, api.OK)
	}
}

func TestGotOfHeadsThatAreTooLong(t *testing.T) { // P10.3
	// The head has n bytes.
	head := func(n int) string {
		return "HTTP/1.1 200 " + strings.Repeat("x", 9) + "\r\nContent-Length: 0\r\n" + "a:" + strings.Repeat("v", n-49) + "\r\n\r\n"
	}
	for _, most := range []int{64, 65, 100, 2000} {
		x := written(most, 10)
		for n := most - 3; n <= most; n++ {
			checkGot(t, x, head(n), api.MsDone, 0)
			checkGot(t, x, head(n)+"y", api.MsBroken, api.FaSurplus)
			checkGot(t, x, info+head(n), api.MsDone, 0)
		}
		for n := most + 1; n < most+4; n++ {
			s := head(n)
			full := changed(x, func(x *api.MsState) { x.In.Line = s[:most] })
			checkStep(t, x, got(s[:most]), full, api.OK)
			checkStep(t, x, got(s[:most+1]), broken(full, api.FaTooLarge), api.OK)
			checkStep(t, x, got(s), broken(full, api.FaTooLarge), api.OK)
			checkStep(t, full, got(s[most:]), broken(full, api.FaTooLarge), api.OK)
			checkStep(t, full, got(""), full, api.OK)
			checkGot(t, x, info+s, api.MsBroken, api.FaTooLarge)
			checkGot(t, x, strings.Repeat(info, 10)+s, api.MsBroken, api.FaTooLarge)
		}
		checkGot(t, x, head(most)[:most-1]+"x", api.MsOpen, 0)
		checkGot(t, x, head(most)[:most-1]+"xx", api.MsBroken, api.FaTooLarge)
		// The byte after as many as may be in a head is too much, even if it has no other fault, or another one.
		for _, s := range []string{"\n", "x", "\r\n"} {
			checkGot(t, x, head(most + 1)[:most]+s, api.MsBroken, api.FaTooLarge)
		}
	}
	long := strings.Repeat("x", 100)
	checkGot(t, written(100, 10), long+"\n", api.MsBroken, api.FaTooLarge)
	checkGot(t, written(101, 10), long+"\n", api.MsBroken, api.FaMalformed)
	// The limit is one of each head, also of one that is passed over.
	early := "HTTP/1.1 103 \r\nLink: " + strings.Repeat("v", 76) + "\r\n\r\n"
	checkGot(t, written(101, 10), strings.Repeat(early, 10)+answer, api.MsDone, 0)
	checkGot(t, written(100, 10), early+answer, api.MsBroken, api.FaTooLarge)
	// The limits of a response itself hold, too.
	checkGot(t, written(65536, 10), strings.Repeat("x", 301), api.MsOpen, 0)
	checkGot(t, written(65536, 10), strings.Repeat("x", 302), api.MsBroken, api.FaTooLarge)
	checkGot(t, written(65536, 10), strings.Repeat(info, 10), api.MsOpen, 0)
	checkGot(t, written(65536, 10), strings.Repeat(info, 11), api.MsBroken, api.FaTooLarge)
	checkGot(t, written(65536, 10), "HTTP/1.1 200 OK\r\nA: "+strings.Repeat("v", 2001)+"\r\n\r\n", api.MsBroken, api.FaTooLarge)
}

func TestGotOfContentThatIsTooLong(t *testing.T) { // P10.3
	for most := range 12 {
		x := written(100, most)
		for n := range 14 {
			body := "0123456789abcdef"[:n]
			open, done, why := api.MsOpen, api.MsDone, api.FaKind(0)
			if n > most {
				open, done, why = api.MsBroken, api.MsBroken, api.FaTooLarge
			}
			length := fmt.Sprintf("HTTP/1.1 200 OK\r\nContent-Length: %d\r\n\r\n", n)
			checkGot(t, x, length+body, done, why)
			if n > 0 {
				checkGot(t, x, length, open, why)
			}
			pieces, one := "", ""
			for i := range n {
				pieces += "1\r\n" + body[i:i+1] + "\r\n"
				one = fmt.Sprintf("%x\r\n%s\r\n", n, body)
			}
			checkGot(t, x, coded+pieces, open, why)
			checkGot(t, x, coded+pieces+"0\r\n\r\n", done, why)
			checkGot(t, x, coded+one+"0\r\n\r\n", done, why)
			checkGot(t, x, ending+body, open, why)
			// The size of a chunk alone is not content.
			checkGot(t, x, coded+"f\r\n"+body, open, why)
		}
		// There is no content, whatever the length says.
		checkGot(t, x, "HTTP/1.1 304 \r\nContent-Length: 99\r\n\r\n", api.MsDone, 0)
		checkGot(t, after(begun("HEAD", 100, most), sent(1)), "HTTP/1.1 200 OK\r\nContent-Length: 99\r\n\r\n", api.MsDone, 0)
		checkGot(t, after(begun("HEAD", 100, most), sent(1)), "HTTP/1.1 200 OK\r\nTransfer-Encoding: x\r\n\r\n", api.MsDone, 0)
	}
	checkStep(t, written(100, 2), got(ending+"abc"), broken(after(written(100, 2), got(ending+"ab")), api.FaTooLarge), api.OK)
	checkStep(t, written(100, 2), got(coded+"3\r\nabc"), broken(after(written(100, 2), got(coded+"3\r\nab")), api.FaTooLarge), api.OK)
}

func TestGotOfMuchContent(t *testing.T) { // P10.3
	x := written(100, 65536)
	all := strings.Repeat("0\r\n\r\n1\x00", 10000)[:65536]
	for _, s := range []string{"HTTP/1.1 200 OK\r\nContent-Length: 65536\r\n\r\n" + all, coded + "10000\r\n" + all + "\r\n0\r\n\r\n", ending + all} {
		y, e := message.Step(x, got(s))
		if e != api.OK || y.In.Body+y.In.Chunks.Data != all || y.Why != 0 {
			t.Errorf("Step: %s, %d", short(y), e)
		}
		z, e := message.Step(x, got(s+"x"))
		why := api.FaSurplus
		if y.Phase == api.MsOpen {
			why = api.FaTooLarge
		}
		if !same(z, broken(y, why)) || e != api.OK {
			t.Errorf("Step: %s, %d", short(z), e)
		}
		w, e := message.Step(changed(x, func(x *api.MsState) { x.MaxBody-- }), got(s))
		if w.Why != api.FaTooLarge || e != api.OK {
			t.Errorf("Step: %s, %d", short(w), e)
		}
	}
	for _, s := range []string{"HTTP/1.1 200 OK\r\nContent-Length: 65537\r\n\r\n", coded + "10001\r\n"} {
		compareStep(t, x, got(s))
		checkGot(t, x, s, api.MsBroken, api.FaTooLarge)
	}
}

func TestGotOfBytesThatAreErrors(t *testing.T) { // P10.3
	x := written(100, 10)
	for _, c := range []struct {
		ok, b string
		why   api.FaKind
	}{
		{"", "\n", api.FaMalformed},
		{"HTTP/1.1 2000 OK\r", "\n", api.FaMalformed},
		{"HTTP/1.1 200 OK", "\n", api.FaMalformed},
		{"HTTP/1.1 200 OK\r\na b: c\r", "\n", api.FaMalformed},
		{"HTTP/1.1 101 Up\r\n\r", "\n", api.FaMalformed},
		{"HTTP/1.1 200 OK\r\nContent-Length: x\r\n\r", "\n", api.FaMalformed},
		{"HTTP/1.1 200 OK\r\nContent-Length: 70000\r\n\r", "\n", api.FaTooLarge},
		{"HTTP/1.0 200 OK\r\nTransfer-Encoding: chunked\r\n\r", "\n", api.FaMalformed},
		{strings.Repeat(info, 10) + info[:len(info)-1], "\n", api.FaTooLarge},
		{coded, "x", api.FaMalformed},
		{coded + "12345678", "9", api.FaTooLarge},
		{coded + "5\r\nabcde", "f", api.FaMalformed},
		{coded + "0\r\nHost: x\r\n\r", "\n", api.FaMalformed},
		{info + coded + "5\r\nabcde\r\n6\r\nfghij", "k", api.FaTooLarge},
	} {
		y := read(x, c.ok)
		if y.Phase != api.MsOpen {
			t.Fatalf("%s: %s", short(c.ok), short(y))
		}
		for _, more := range []string{"", "x", answer, "\n\n\n"} {
			checkStep(t, y, got(c.b+more), broken(y, c.why), api.OK)
		}
	}
}

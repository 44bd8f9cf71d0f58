package response_test

import (
	"slices"
	"strings"
	"testing"

	"spillway/api"
	"spillway/response"
)

// all65536 is as much content as there may be.
var all65536 = strings.Repeat("x", 65536)

// info is a head that is passed over.
const info = "HTTP/1.1 100 \r\n\r\n"

// checkFeed fails if Feed does not return these results.
func checkFeed(t *testing.T, x api.RsState, b string, want api.RsState, used int, e api.Errno) {
	t.Helper()
	y, n, got := response.Feed(x, []byte(b))
	if !same(y, want) || n != used || got != e {
		t.Errorf("Feed(%s, %s): %s, %d, %d, want %s, %d, %d", short(x), short(b), short(y), n, got, short(want), used, e)
	}
}

// compareFeed fails if Feed does not return what the model does.
func compareFeed(t *testing.T, x api.RsState, b string) {
	t.Helper()
	want, used, e := feed(x, b)
	checkFeed(t, x, b, want, used, e)
}

// start is the state at the beginning.
func start(method string) api.RsState { return api.RsState{Method: method} }

func TestStart(t *testing.T) { // P9.3
	for _, method := range []string{"GET", "HEAD", "get", "x", "!#$%&'*+-.^_`|~", strings.Repeat("x", 64)} {
		x, e := response.Start(method)
		if !same(x, api.RsState{Method: method, Phase: api.RsHeading}) || e != api.OK {
			t.Errorf("Start(%q): %s, %d", method, short(x), e)
		}
		checkFeed(t, x, "", x, 0, api.OK)
	}
	for _, method := range notTokens {
		x, e := response.Start(method)
		if !same(x, api.RsState{}) || e != api.ErrArg {
			t.Errorf("Start(%q): %s, %d", method, short(x), e)
		}
	}
}

func TestFeedOfExamples(t *testing.T) { // P9.3
	h := final(200, "Content-Length", "2")
	s := text(h)
	checkFeed(t, start("GET"), s+"abc", api.RsState{Method: "GET", Phase: api.RsWhole, Head: h, Framing: api.RsLength, Body: "ab"}, len(s)+2, api.OK)
	checkFeed(t, start("HEAD"), s+"abc", api.RsState{Method: "HEAD", Phase: api.RsWhole, Head: h}, len(s), api.OK)
	checkFeed(t, start("GET"), "HTTP/1.1 100 Continue\r\n\r\n"+s+"abc", api.RsState{Method: "GET", Phase: api.RsWhole, Infos: 1, Head: h, Framing: api.RsLength, Body: "ab"}, 25+len(s)+2, api.OK)
	plain := api.RsHead{Status: 200, Reason: "OK"}
	checkFeed(t, start("GET"), "HTTP/1.0 200 OK\r\n\r\nab", api.RsState{Method: "GET", Phase: api.RsBody, Head: plain, Framing: api.RsClose, Body: "ab"}, 21, api.OK)
}

// step is bytes that are read, and the state after them.
type step struct {
	b    string
	want api.RsState
}

// checkSteps fails if the bytes of steps, one after the other, do not lead to their states.
func checkSteps(t *testing.T, x api.RsState, steps []step) {
	t.Helper()
	for _, c := range steps {
		checkFeed(t, x, c.b, c.want, len(c.b), api.OK)
		compareFeed(t, x, c.b)
		x = c.want
	}
}

func TestFeedOfHeads(t *testing.T) { // P9.3
	h := api.RsHead{Minor: 1, Status: 200, Fields: fields("a", "b", "Content-Length", "0")}
	checkSteps(t, start("GET"), []step{
		{"", api.RsState{Method: "GET"}},
		{"HTTP/1.", api.RsState{Method: "GET", Line: "HTTP/1."}},
		{"1 103 x\r\nLink:", api.RsState{Method: "GET", Line: "HTTP/1.1 103 x\r\nLink:"}},
		{" y\r\n\r", api.RsState{Method: "GET", Line: "HTTP/1.1 103 x\r\nLink: y\r\n\r"}},
		{"\n", api.RsState{Method: "GET", Infos: 1}},
		{"HTTP/1.0 102 \r\n\r\nHTTP/1.1 199 \r\nContent-Length: 5\r\n\r\nH", api.RsState{Method: "GET", Infos: 3, Line: "H"}},
		{"TTP/1.1 200 \r\na: b\r\nContent-Length:0\r\n\r", api.RsState{Method: "GET", Infos: 3, Line: "HTTP/1.1 200 \r\na: b\r\nContent-Length:0\r\n\r"}},
		{"\n", api.RsState{Method: "GET", Phase: api.RsWhole, Infos: 3, Head: h, Framing: api.RsLength}},
		{"", api.RsState{Method: "GET", Phase: api.RsWhole, Infos: 3, Head: h, Framing: api.RsLength}},
	})
}

func TestFeedOfContentOfALength(t *testing.T) { // P9.3
	h := final(200, "Content-Length", "5, 05")
	s := text(h)
	checkSteps(t, start("GET"), []step{
		{s, api.RsState{Method: "GET", Phase: api.RsBody, Head: h, Framing: api.RsLength, Left: 5}},
		{"", api.RsState{Method: "GET", Phase: api.RsBody, Head: h, Framing: api.RsLength, Left: 5}},
		{"\r\n", api.RsState{Method: "GET", Phase: api.RsBody, Head: h, Framing: api.RsLength, Body: "\r\n", Left: 3}},
		{"\x00\xff", api.RsState{Method: "GET", Phase: api.RsBody, Head: h, Framing: api.RsLength, Body: "\r\n\x00\xff", Left: 1}},
		{"5", api.RsState{Method: "GET", Phase: api.RsWhole, Head: h, Framing: api.RsLength, Body: "\r\n\x00\xff5"}},
	})
}

func TestFeedOfContentInChunks(t *testing.T) { // P9.3
	h := final(200, "Transfer-Encoding", "chunked")
	s := text(h)
	at := func(phase int, y api.ChState) api.RsState {
		return api.RsState{Method: "GET", Phase: phase, Infos: 1, Head: h, Framing: api.RsChunked, Chunks: y}
	}
	checkSteps(t, start("GET"), []step{
		{info + s, at(api.RsBody, api.ChState{})},
		{"2;x", at(api.RsBody, api.ChState{Line: "2;x"})},
		{"\r\na", at(api.RsBody, api.ChState{Phase: api.ChData, Data: "a", Left: 1})},
		{"\n\r", at(api.RsBody, api.ChState{Phase: api.ChEnd, Data: "a\n", Line: "\r"})},
		{"\n1\r\n!\r\n0\r\n", at(api.RsBody, api.ChState{Phase: api.ChTrailer, Data: "a\n!"})},
		{"Name: 1\r\n\r", at(api.RsBody, api.ChState{Phase: api.ChTrailer, Data: "a\n!", Line: "Name: 1\r\n\r"})},
		{"\n", at(api.RsWhole, api.ChState{Phase: api.ChDone, Data: "a\n!", Trailers: fields("Name", "1")})},
		{"", at(api.RsWhole, api.ChState{Phase: api.ChDone, Data: "a\n!", Trailers: fields("Name", "1")})},
	})
}

func TestFeedOfContentUpToTheEnd(t *testing.T) { // P9.3
	h := final(404, "Connection", "keep-alive")
	s := text(h)
	at := func(body string) api.RsState {
		return api.RsState{Method: "HEADER", Phase: api.RsBody, Head: h, Framing: api.RsClose, Body: body}
	}
	checkSteps(t, start("HEADER"), []step{
		{s, at("")},
		{"a", at("a")},
		{"\r\n\r\n", at("a\r\n\r\n")},
		{all65536[5:], at("a\r\n\r\n" + all65536[5:])},
		{"", at("a\r\n\r\n" + all65536[5:])},
	})
	checkFeed(t, at(all65536), "x", at(all65536), 0, api.ErrLong)
	checkFeed(t, at(all65536[1:]), "xx", at(all65536[1:]), 0, api.ErrLong)
	checkFeed(t, start("GET"), s+all65536+"x", start("GET"), 0, api.ErrLong)
}

// wholes is states in which the response is whole, and the bytes that lead to them.
func wholes() (all []api.RsState, texts []string) {
	add := func(method, s string) {
		x, _, _ := read(method, s)
		all, texts = append(all, x), append(texts, s)
	}
	add("GET", text(final(200, "Content-Length", "3"))+"a\r\n")
	add("GET", text(final(200, "Content-Length", "0")))
	add("POST", info+info+text(final(200, "Transfer-Encoding", "chunked"))+"2\r\nab\r\n0\r\nx: y\r\n\r\n")
	add("GET", text(final(200, "Transfer-Encoding", "chunked"))+"0\r\n\r\n")
	add("HEAD", text(final(200, "Content-Length", "3")))
	add("HEAD", info+text(final(404, "Transfer-Encoding", "x")))
	add("GET", text(final(204)))
	add("GET", text(final(304, "Content-Length", "x")))
	return all, texts
}

func TestFeedUpToTheEnd(t *testing.T) { // P9.3, P9.7
	all, texts := wholes()
	for i, x := range all {
		s := texts[i]
		if x.Phase != api.RsWhole {
			t.Fatalf("%s: %s", short(s), short(x))
		}
		for _, more := range []string{"", "x", "\r\n", "\x00\xff", s, info, all65536 + "x"} {
			checkFeed(t, start(x.Method), s+more, x, len(s), api.OK)
			checkFeed(t, x, more, x, 0, api.OK)
		}
	}
	ended := api.RsState{Method: "GET", Phase: api.RsWhole, Head: final(200), Framing: api.RsClose, Body: "ab"}
	checkFeed(t, ended, "c", ended, 0, api.OK)
	checkFeed(t, ended, "", ended, 0, api.OK)
}

func TestFeedOfHeadsThatArePassedOver(t *testing.T) { // P9.3
	whole := text(final(204))
	for n := range 13 {
		heads := strings.Repeat(info, n)
		if n > 10 {
			checkFeed(t, start("GET"), heads, start("GET"), 0, api.ErrLong)
			checkFeed(t, start("GET"), heads+whole, start("GET"), 0, api.ErrLong)
			continue
		}
		x := api.RsState{Method: "GET", Infos: n}
		checkFeed(t, start("GET"), heads, x, len(heads), api.OK)
		checkFeed(t, start("GET"), heads+whole, api.RsState{Method: "GET", Infos: n, Phase: api.RsWhole, Head: final(204)}, len(heads+whole), api.OK)
		checkFeed(t, x, "HTTP/1.1 101 \r\n\r\n", x, 0, api.ErrForm)
		checkFeed(t, x, "HTTP/1.1 101 \r\n\r", api.RsState{Method: "GET", Infos: n, Line: "HTTP/1.1 101 \r\n\r"}, 16, api.OK)
	}
	full := api.RsState{Method: "GET", Infos: 10, Line: info[:16]}
	checkFeed(t, full, "\n", full, 0, api.ErrLong)
	// Nothing is asked of the fields of such a head, but that they can be read.
	for _, s := range []string{
		"HTTP/1.1 100 \r\nContent-Length: x\r\nTransfer-Encoding: y\r\nConnection: \"\r\n\r\n",
		"HTTP/1.0 102 \r\n" + strings.Repeat("A:"+strings.Repeat("v", 1634)+"\r\n", 5) + "\r\n",
		text(api.RsHead{Status: 199, Fields: long(8192)}),
	} {
		checkFeed(t, start("HEAD"), s+"HTTP", api.RsState{Method: "HEAD", Infos: 1, Line: "HTTP"}, len(s)+4, api.OK)
	}
	for status := 100; status < 200; status++ {
		s := text(final(status))
		if status == 101 {
			checkFeed(t, start("GET"), s, start("GET"), 0, api.ErrForm)
		} else {
			checkFeed(t, start("GET"), s, api.RsState{Method: "GET", Infos: 1}, len(s), api.OK)
		}
	}
}

func TestFeedOfBytesThatAreErrors(t *testing.T) { // P9.3
	line := "HTTP/1.1 200 OK\r\n"
	chunked := text(final(200, "Transfer-Encoding", "chunked"))
	for _, c := range []struct {
		ok, b string
		e     api.Errno
	}{
		{"", "\n", api.ErrForm},
		{"HTTP/1.1 200", "\r\n", api.ErrForm},
		{"HTTP/1.1 200 OK", "\n", api.ErrForm},
		{"HTTP/1.2 200 OK\r", "\n", api.ErrForm},
		{"HTTP/1.1 600 OK\r", "\n", api.ErrForm},
		{strings.Repeat("x", 301), "x", api.ErrLong},
		{strings.Repeat("x", 301), "\n", api.ErrForm},
		{strings.Repeat("\r", 301), "\r", api.ErrLong},
		{line + "a b: c\r", "\n", api.ErrForm},
		{line + "a b: c", "\n", api.ErrForm},
		{line + "A: b\r\n c\r", "\n", api.ErrForm},
		{line, "\n", api.ErrForm},
		{line + "A:" + strings.Repeat("v", 2001) + "\r", "\n", api.ErrLong},
		{line + strings.Repeat("a:\r\n", 100) + "a:\r", "\n", api.ErrLong},
		{line + strings.Repeat("x", 8192), "x", api.ErrLong},
		{line + strings.Repeat("x", 8192), "\n", api.ErrLong},
		{line + strings.Repeat("x", 8191), "\n", api.ErrForm},
		{"HTTP/1.1 200 " + strings.Repeat("x", 287) + "\r\n" + strings.Repeat("y", 8192), "y", api.ErrLong},
		{"HTTP/1.1 200 \r\n" + strings.Repeat("y", 8192), "y", api.ErrLong},
		{"HTTP/1.1 101 \r\n\r", "\n", api.ErrForm},
		{strings.Repeat(info, 10) + info[:16], "\n", api.ErrLong},
		{line + "Content-Length: 2, 3\r\n\r", "\n", api.ErrForm},
		{line + "Content-Length: 65537\r\n\r", "\n", api.ErrLong},
		{line + "Transfer-Encoding: gzip\r\n\r", "\n", api.ErrForm},
		{line + strings.Repeat("A:"+strings.Repeat("v", 1634)+"\r\n", 5) + "\r", "\n", api.ErrLong},
		{chunked, "x", api.ErrForm},
		{chunked, "\r", api.ErrForm},
		{chunked + "1\r\na", "\n", api.ErrForm},
		{chunked + "12345678", "9", api.ErrLong},
		{chunked + "10001\r", "\n", api.ErrLong},
		{chunked + "0\r\nHost: x\r\n\r", "\n", api.ErrForm},
		{text(final(200)) + all65536, "x", api.ErrLong},
	} {
		x, used, e := read("GET", c.ok)
		if e != api.OK || used != len(c.ok) {
			t.Fatalf("%s: %d, %d", short(c.ok), used, e)
		}
		checkFeed(t, start("GET"), c.ok, x, len(c.ok), api.OK)
		checkFeed(t, x, c.b, x, 0, c.e)
		checkFeed(t, x, c.b+"\r\n\r\n\xff", x, 0, c.e)
		checkFeed(t, start("GET"), c.ok+c.b, start("GET"), 0, c.e)
	}
	// For HEAD there is no content in which these could be errors.
	for _, s := range []string{line + "Content-Length: 2, 3\r\n\r\n", line + "Transfer-Encoding: gzip\r\n\r\n", chunked + "x", text(final(200)) + all65536 + "x"} {
		x, used, _ := read("HEAD", s)
		checkFeed(t, start("HEAD"), s, x, used, api.OK)
	}
}

// places is a state for each place at which a byte may be read.
func places() []api.RsState {
	var all []api.RsState
	for _, s := range []string{
		"", "HTTP/1.1 200 OK", "HTTP/1.1 20", "HTTP/1.1 200 OK\r", "HTTP/1.1 200 \r\n", "HTTP/1.1 200 \r\nA", "HTTP/1.1 200 \r\nA:", "HTTP/1.1 200 \r\nA:b\r",
		info + "HTTP/1.1 101 \r\n\r", info[:16], strings.Repeat(info, 10) + info[:16], strings.Repeat("x", 301), "HTTP/1.1 200 " + strings.Repeat("x", 287), "HTTP/1.1 200 " + strings.Repeat("x", 287) + "\r",
		text(final(200, "Content-Length", "1")), text(final(200, "Content-Length", "3")) + "a", text(final(200, "Content-Length", "x"))[:36],
		text(final(200, "Transfer-Encoding", "chunked")), text(final(200, "Transfer-Encoding", "chunked")) + "1", text(final(200, "Transfer-Encoding", "chunked")) + "1\r\n", text(final(200, "Transfer-Encoding", "chunked")) + "0\r\n\r",
		text(final(200)), text(final(200)) + "ab", text(final(204)),
	} {
		x, _, _ := read("GET", s)
		all = append(all, x)
	}
	return all
}

func TestFeedOfEachByte(t *testing.T) { // P9.3
	for _, x := range places() {
		for c := range 256 {
			b := string([]byte{byte(c)})
			for _, s := range []string{b, b + "\n", b + "\r\n", b + "\r\n\r\n", b + b} {
				compareFeed(t, x, s)
			}
		}
	}
}

func TestFeedOfHeadsAtLimits(t *testing.T) { // P9.3
	for n := 8180; n <= 8200; n += 4 {
		for _, reason := range []string{"", strings.Repeat("x", 287)} {
			h := api.RsHead{Minor: 1, Status: 204, Reason: reason, Fields: long(n)}
			for _, s := range []string{text(h), strings.ReplaceAll(text(h), ": ", ":")} {
				if n <= 8192 {
					checkFeed(t, start("GET"), s+"x", api.RsState{Method: "GET", Phase: api.RsWhole, Head: h}, len(s), api.OK)
				} else {
					checkFeed(t, start("GET"), s, start("GET"), 0, api.ErrLong)
				}
			}
		}
	}
	for n := 284; n < 292; n++ {
		s := "HTTP/1.1 204 " + strings.Repeat("x", n) + "\r\n\r\n"
		compareFeed(t, start("GET"), s)
		compareFeed(t, start("GET"), strings.Repeat(info, 10)+s)
		compareFeed(t, start("GET"), s[:len(s)-4])
	}
	most := strings.Repeat("a:\r\n", 100) + "\r\n"
	h := final(204)
	h.Fields = slices.Repeat(fields("a", ""), 100)
	checkFeed(t, start("GET"), "HTTP/1.1 204 OK\r\n"+most, api.RsState{Method: "GET", Phase: api.RsWhole, Head: h}, 17+len(most), api.OK)
}

func TestFeedOfContentAtLimits(t *testing.T) { // P9.3
	whole := func(h api.RsHead, body string, y api.ChState, kind int) api.RsState {
		return api.RsState{Method: "GET", Phase: api.RsWhole, Head: h, Framing: kind, Body: body, Chunks: y}
	}
	counted := final(200, "Content-Length", "65536")
	checkFeed(t, start("GET"), text(counted)+all65536+"y", whole(counted, all65536, api.ChState{}, api.RsLength), len(text(counted))+65536, api.OK)
	coded := final(200, "Transfer-Encoding", "chunked")
	data := chunk(all65536[:40000]) + chunk(all65536[40000:]) + "0\r\n" + lines(long(8192))
	done := api.ChState{Phase: api.ChDone, Data: all65536, Trailers: long(8192)}
	checkFeed(t, start("GET"), text(coded)+data+"y", whole(coded, "", done, api.RsChunked), len(text(coded)+data), api.OK)
	checkFeed(t, start("GET"), text(coded)+chunk(all65536)+"1\r\n", start("GET"), 0, api.ErrLong)
}

// anyPart is a part of what a backend may send.
func anyPart(next func(n int) int) string {
	parts := []string{
		info, "HTTP/1.1 101 \r\n\r\n", "HTTP/1.0 100 x\r\nContent-Length: x\r\n\r\n",
		"HTTP/1.1 200 OK\r\n", "HTTP/1.0 404 \r\n", "HTTP/1.1 204 No\r\n", "HTTP/1.1 304 \r\n", "HTTP/1.1 599 x\r\n",
		"Content-Length: 2\r\n", "content-length: 0, 00\r\n", "Transfer-Encoding: chunked\r\n", "Connection: close\r\n", "A:\r\n", "\r\n", "\r\n", "\r\n",
		"1\r\na\r\n", "0\r\n", "0\r\nB: c\r\n\r\n", "ab", "\n", "\r", "x", "HTTP/1.1 ",
	}
	return parts[next(len(parts))]
}

// anyBytes is what a backend may send: a response, or parts of one that may not go together, which may be changed at a place.
func anyBytes(next func(n int) int) string {
	s := strings.Repeat(info, next(4)*next(4))
	switch next(5) {
	case 0:
		for range next(10) {
			s += anyPart(next)
		}
	case 1:
		s += text(final(200+next(6), "A", "b", "content-LENGTH", "7")) + "content"
	case 2:
		s += text(final(200+next(6), "Transfer-Encoding", ",Chunked")) + "3;x\r\nabc\r\n0" + "a\r\n0123456789\r\n0\r\n" + lines(fields("n", "v")[:next(2)])
	case 3:
		s += "HTTP/1." + string(rune('0'+next(3))) + " 200 \r\n" + "A:b\r\n\r\nall that comes"
	case 4:
		s += "HTTP/1.1 " + []string{"100", "204", "304", "200"}[next(4)] + " x y\r\nContent-Length:0\r\n\r\nmore"
	}
	if i := next(len(s) + 1); next(2) == 0 {
		s = s[:i] + []string{"", "\r", "\n", "\x00", "1", ":"}[next(6)] + s[min(len(s), i+next(2)):]
	}
	return s
}

func TestFeedOfManyBytes(t *testing.T) { // P9.3
	next := numbers(6)
	for range 20000 {
		compareFeed(t, start([]string{"GET", "HEAD", "POST", "PUT"}[next(4)]), anyBytes(next))
	}
	for range 5000 {
		x, _, e := read([]string{"GET", "HEAD"}[next(2)], anyBytes(next))
		if e == api.OK {
			compareFeed(t, x, anyBytes(next))
			compareFeed(t, x, anyPart(next)+anyPart(next))
		}
	}
}

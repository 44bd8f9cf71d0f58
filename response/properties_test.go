package response_test

import (
	"strings"
	"testing"

	"spillway/api"
	"spillway/response"
)

// anyHead is a head that Print takes, for a kind of framing.
func anyHead(next func(n int) int, kind int) api.RsHead {
	h := api.RsHead{Minor: next(2), Status: 200 + next(400), Reason: []string{"", "OK", " no \t reason ", strings.Repeat("x", 287)}[next(4)]}
	if kind == api.RsChunked {
		h.Minor = 1
	}
	for kind != api.RsNone && (h.Status == 204 || h.Status == 304) {
		h.Status = 200 + next(400)
	}
	for range next(4) {
		h.Fields = append(h.Fields, field([]string{"a", "A", "x-Y", "Connection", "trailer", "Content-Type"}[next(6)], []string{"", "b", "c \t d", "close", "Keep-Alive, x", "\"", "0\\r\\n"}[next(7)]))
	}
	return h
}

// anyBody is content of at most some bytes.
func anyBody(next func(n int) int, most int) string {
	var b []byte
	for range next(most + 1) {
		b = append(b, byte(next(256)))
	}
	return string(b)
}

// checkPrinted fails if what Print returns is not read as the response that was printed.
func checkPrinted(t *testing.T, method string, h api.RsHead, body string, kind int) {
	t.Helper()
	b, e := response.Print(h, []byte(body), kind)
	if e != api.OK {
		t.Fatalf("Print(%s, %s, %d): %d", short(h), short(body), kind, e)
	}
	x, e := response.Start(method)
	if e != api.OK {
		t.Fatalf("Start(%s): %d", method, e)
	}
	x, used, e := response.Feed(x, b)
	if kind == api.RsClose && x.Phase == api.RsBody && e == api.OK {
		x, e = response.End(x)
	}
	if e != api.OK || used != len(b) || x.Phase != api.RsWhole {
		t.Errorf("Feed of Print(%s, %s, %d): %s, %d, %d", short(h), short(body), kind, short(x), used, e)
	}
	h = framed(h, body, kind)
	checkResponse(t, x, api.RsResponse{Head: h, Framing: kind, Body: body, Keep: kept(h, kind)}, api.OK)
}

func TestFeedOfPrint(t *testing.T) { // P9.6
	next := numbers(8)
	methods := []string{"GET", "head", "POST", "x"}
	for range 3000 {
		for _, kind := range kinds[1:] {
			checkPrinted(t, methods[next(4)], anyHead(next, kind), anyBody(next, 40), kind)
		}
		checkPrinted(t, "HEAD", anyHead(next, api.RsNone), "", api.RsNone)
		h := anyHead(next, api.RsNone)
		h.Status = []int{204, 304}[next(2)]
		checkPrinted(t, methods[next(4)], h, "", api.RsNone)
	}
}

func TestFeedOfPrintAtLimits(t *testing.T) { // P9.6
	h := api.RsHead{Minor: 1, Status: 200, Reason: strings.Repeat("x", 287)}
	for _, n := range []int{0, 1, 15, 16, 4096, 65535, 65536} {
		body := strings.Repeat("0\r\n\r\n1\x00", 10000)[:n]
		for _, kind := range kinds[1:] {
			h.Fields = nil
			checkPrinted(t, "GET", h, body, kind)
			h.Fields = long(8160)
			checkPrinted(t, "GET", h, body, kind)
		}
	}
	h.Fields = long(8192)
	checkPrinted(t, "GET", h, all65536, api.RsClose)
	checkPrinted(t, "HEAD", h, "", api.RsNone)
	for status := 200; status < 600; status++ {
		if h := final(status, "a", "b"); status == 204 || status == 304 {
			checkPrinted(t, "GET", h, "", api.RsNone)
		} else {
			checkPrinted(t, "GET", h, "ab", api.RsLength)
			checkPrinted(t, "GET", h, "ab", api.RsChunked)
			checkPrinted(t, "GET", h, "ab", api.RsClose)
		}
	}
}

// inParts is the state to which bytes lead that are read in parts of some lengths, and how many are read, or the error of the part that ends it.
func inParts(t *testing.T, x api.RsState, s string, length func() int) (api.RsState, int, api.Errno) {
	t.Helper()
	used := 0
	for used < len(s) {
		part := s[used:min(used+length(), len(s))]
		y, n, e := response.Feed(x, []byte(part))
		if e != api.OK && (n != 0 || !same(x, y)) {
			t.Errorf("Feed(%s, %s): %s, %d, %d", short(x), short(part), short(y), n, e)
		}
		if e != api.OK {
			return y, used, e
		}
		if n < len(part) && y.Phase != api.RsWhole {
			t.Errorf("Feed(%s, %s): %s, %d, %d", short(x), short(part), short(y), n, e)
		}
		used += n
		x = y
		if n < len(part) {
			break
		}
	}
	return x, used, api.OK
}

// checkParts fails if bytes that are read in parts lead to something else than all at once.
func checkParts(t *testing.T, method, s string, length func() int) {
	t.Helper()
	want, used, e := response.Feed(start(method), []byte(s))
	x, n, got := inParts(t, start(method), s, length)
	if got != e || e == api.OK && (n != used || !same(x, want)) {
		t.Errorf("%s in parts: %s, %d, %d, want %s, %d, %d", short(s), short(x), n, got, short(want), used, e)
	}
}

func TestFeedInParts(t *testing.T) { // P9.7
	next := numbers(9)
	for range 3000 {
		method, s := []string{"GET", "HEAD"}[next(2)], anyBytes(next)
		checkParts(t, method, s, func() int { return 1 })
		most := 1 + next(30)
		checkParts(t, method, s, func() int { return 1 + next(most) })
	}
}

func TestFeedInTwoParts(t *testing.T) { // P9.7
	all, texts := wholes()
	for i, s := range texts {
		for _, s := range []string{s, s + "rest", strings.Replace(s, "\r\n\r\n", "\r\n\n", 1), "\n" + s} {
			for n := 1; n <= len(s); n++ {
				length := 0
				checkParts(t, all[i].Method, s, func() int { length += n; return length })
			}
		}
	}
}

func TestFeedOfMuchInParts(t *testing.T) { // P9.7
	h := api.RsHead{Minor: 1, Status: 200, Reason: strings.Repeat("x", 287), Fields: long(8000)}
	for _, kind := range kinds[1:] {
		b, _ := response.Print(h, []byte(all65536), kind)
		for _, n := range []int{997, 8192, 50000, 1 << 20} {
			checkParts(t, "GET", strings.Repeat(info, 10)+string(b), func() int { return n })
			checkParts(t, "GET", string(b)+"y", func() int { return n })
		}
	}
	first := "HTTP/1.1 200 \r\n"
	for _, s := range []string{
		first + lines(long(8192)), first + lines(long(8193)), first + strings.Repeat("x", 8193), first + strings.ReplaceAll(lines(long(8195)), ": ", ":"),
		"HTTP/1.1 200 " + strings.Repeat("x", 289), "HTTP/1.1 200 " + strings.Repeat("x", 287) + "\r\n\r\n", "HTTP/1.1 200 " + strings.Repeat("x", 288) + "\n",
		strings.Repeat(info, 11), text(final(200)) + all65536 + "x",
	} {
		checkParts(t, "GET", s, func() int { return 100 })
		checkParts(t, "GET", s[:min(len(s), 9000)], func() int { return 1 })
	}
}

func TestBeginningsOfResponses(t *testing.T) { // P9.8
	next := numbers(10)
	for range 500 {
		for _, kind := range []int{api.RsLength, api.RsChunked} {
			b, _ := response.Print(anyHead(next, kind), []byte(anyBody(next, 40)), kind)
			checkBeginnings(t, strings.Repeat(info, next(3))+string(b), 1)
		}
	}
	l := fields("a", "b", "c", "")
	coded := info + text(final(200, "Transfer-Encoding", "chunked"))
	checkBeginnings(t, coded+"3;x=\"\"\r\nabc\r\n1\r\n\r\r\n00;0\r\n"+lines(l), 1)
	for _, kind := range []int{api.RsLength, api.RsChunked} {
		b, _ := response.Print(api.RsHead{Minor: 1, Status: 200, Fields: long(8000)}, []byte(all65536), kind)
		checkBeginnings(t, string(b), 911)
	}
}

// checkBeginnings fails if bytes are not exactly one response, or some of their beginnings, so far apart, are whole, or may end.
func checkBeginnings(t *testing.T, s string, step int) {
	t.Helper()
	for _, after := range []string{"", "x", s} {
		x, used, e := response.Feed(start("GET"), []byte(s+after))
		if x.Phase != api.RsWhole || used != len(s) || e != api.OK {
			t.Fatalf("Feed(%s): %s, %d, %d", short(s+after), short(x), used, e)
		}
	}
	for n := len(s) - 1; n >= 0; n -= step {
		x, used, e := response.Feed(start("GET"), []byte(s[:n]))
		if x.Phase == api.RsWhole || used != n || e != api.OK {
			t.Errorf("Feed(%s): %s, %d, %d", short(s[:n]), short(x), used, e)
		}
		checkEnd(t, x, x, api.ErrMore)
		checkResponse(t, x, api.RsResponse{}, api.ErrDown)
	}
}

package request_test

import (
	"bytes"
	"slices"
	"strings"
	"testing"

	"spillway/api"
	"spillway/headers"
	"spillway/request"
)

func checkFeed(t *testing.T, rest, more string, want []api.Request, left string, e api.Errno) {
	t.Helper()
	l, b, got := request.Feed([]byte(rest), []byte(more))
	if !slices.EqualFunc(l, want, same) || string(b) != left || got != e {
		t.Errorf("Feed(%.100q, %.100q): %s, %.100q, %d, want %s, %.100q, %d", rest, more, short(l), b, got, short(want), left, e)
	}
}

// message is the message of a request without faults.
func message(r api.Request) string {
	s, _ := encode(r)
	return s
}

func TestFeedOfExamples(t *testing.T) { // P7.5
	get, post := build("GET", "/a", "", field("a", "b")), build("POST", "/", "\r\n\r\n")
	a, b := message(get), message(post)
	both := []api.Request{get, post}
	checkFeed(t, "", "", nil, "", api.OK)
	checkFeed(t, "", a, both[:1], "", api.OK)
	checkFeed(t, a, "", both[:1], "", api.OK)
	checkFeed(t, a, b, both, "", api.OK)
	checkFeed(t, "", a+b, both, "", api.OK)
	checkFeed(t, a+b, "", both, "", api.OK)
	checkFeed(t, b[:9], b[9:]+b+a+a[:20], []api.Request{post, post, get}, a[:20], api.OK)
	checkFeed(t, "", b[:len(b)-1], nil, b[:len(b)-1], api.OK)
	checkFeed(t, "GET ", "/", nil, "GET /", api.OK)
	checkFeed(t, strings.Repeat("x", 1000), strings.Repeat("y", 23), nil, strings.Repeat("x", 1000)+strings.Repeat("y", 23), api.OK)
}

func TestFeedOfErrors(t *testing.T) { // P7.5
	get := build("GET", "/a", "")
	a := message(get)
	for s, e := range map[string]api.Errno{
		"\n":                                api.ErrForm,
		"GET / HTTP/1.0\r\n":                api.ErrForm,
		"GET / HTTP/1.1\r\nx\r\n":           api.ErrForm,
		strings.Repeat("x", 1024):           api.ErrLong,
		strings.Replace(a, "5", "0", 1):     api.ErrRange,
		strings.Replace(a, "GET", "G T", 1): api.ErrForm,
		"GET / HTTP/1.1\r\n" + own + "Content-Length: 1\r\n\r\n": api.ErrArg,
		"CONNECT / HTTP/1.1\r\n" + own + "\r\n":                  api.ErrDown,
	} {
		checkFeed(t, "", s, nil, "", e)
		checkFeed(t, s[:len(s)/2], s[len(s)/2:]+a, nil, "", e)
		checkFeed(t, a, s, []api.Request{get}, "", e)
		checkFeed(t, a+a, a+s+a, []api.Request{get, get, get}, "", e)
	}
}

func TestFeedOfManyRequests(t *testing.T) { // P7.5
	get := build("GET", "/", "")
	checkFeed(t, "", strings.Repeat(message(get), 2000)+"GET", slices.Repeat([]api.Request{get}, 2000), "GET", api.OK)
	put := build("PUT", "/", strings.Repeat("x", 65536))
	checkFeed(t, message(put)[:70000-5000], message(put)[70000-5000:]+message(put)[:60000], []api.Request{put}, message(put)[:60000], api.OK)
}

// anyStream is some messages; often the last one is not whole, and sometimes there is an error.
func anyStream(next func(n int) int) string {
	s := ""
	for range 1 + next(4) {
		s += anyMessage(next)
	}
	if next(2) == 0 {
		s = s[:next(len(s)+1)]
	}
	if i := next(len(s) + 1); i < len(s) && next(3) == 0 {
		s = s[:i] + string([]byte{byte(next(256))}) + s[i+1:]
	}
	return s
}

func TestFeedOfManyStreams(t *testing.T) { // P7.5
	next := numbers(5)
	for range 10000 {
		s := anyStream(next)
		want, left, e := feed([]byte(s))
		i := next(len(s) + 1)
		checkFeed(t, s[:i], s[i:], want, string(left), e)
	}
}

// fed is what is read if bytes are fed in pieces, up to an error.
func fed(next func(n int) int, s string, most int) (all []api.Request, left []byte, e api.Errno) {
	for s != "" {
		n := min(1+next(most), len(s))
		var l []api.Request
		l, left, e = request.Feed(left, []byte(s[:n]))
		all = append(all, l...)
		if e != api.OK {
			return all, left, e
		}
		s = s[n:]
	}
	return all, left, api.OK
}

func TestFeedInPieces(t *testing.T) { // P7.8
	next := numbers(6)
	for range 2000 {
		s := anyStream(next)
		want, left, e := request.Feed(nil, []byte(s))
		for _, most := range []int{1, 3, 30, 300} {
			all, rest, got := fed(next, s, most)
			if !slices.EqualFunc(all, want, same) || !bytes.Equal(rest, left) || got != e {
				t.Errorf("%q in pieces of at most %d bytes: %+v, %q, %d, want %+v, %q, %d", s, most, all, rest, got, want, left, e)
			}
		}
	}
}

// stripped is a request with the fields that Strip leaves.
func stripped(r api.Request) api.Request {
	r.Fields, _ = headers.Strip(r.Fields)
	return r
}

// anyRequest is a request without faults that looks like a random one.
func anyRequest(next func(n int) int) api.Request {
	pick := func(all ...string) string { return all[next(len(all))] }
	r := api.Request{Id: int64(1 + next(1000000000)), Method: pick("GET", "HEAD", "OPTIONS", "PUT", "POST", "PATCH", "BREW"), Target: anyTarget(next), Host: pick("h", "a.b:80")}
	for range next(4) {
		r.Fields = append(r.Fields, field(pick("a", "B", "te", "Connection", "Keep-Alive"), pick("", "x", "a, b", "close", `"a"`)))
	}
	if !isOne(r.Method, "GET HEAD") {
		r.Body = pick("", "x", "\r\n", "GET / HTTP/1.1\r\n\r\n")
	}
	return r
}

// roundTrip fails if the message of a request is not read as this request, or a part of it as anything.
func roundTrip(t *testing.T, r api.Request, after string, cuts int) {
	t.Helper()
	s, e := request.Encode(r)
	if e != api.OK {
		t.Fatalf("Encode of %s: %d", short(r), e)
	}
	checkParse(t, s, stripped(r), len(s), api.OK)
	checkParse(t, s+after, stripped(r), len(s), api.OK)
	for i := 0; i < len(s); i += 1 + len(s)/cuts {
		wrong(t, s[:i], api.ErrMore)
	}
	wrong(t, s[:len(s)-1], api.ErrMore)
	// Its message is the same as before.
	checkEncode(t, stripped(r), s, api.OK)
}

func TestParseOfEncode(t *testing.T) { // P7.7
	next := numbers(7)
	for range 3000 {
		roundTrip(t, anyRequest(next), anyMessage(next)[next(20):], 1<<20)
	}
	roundTrip(t, example(), "\xff", 1<<20)
	for _, method := range []string{"OPTIONS", "POST", strings.Repeat("M", 16)} {
		most := sized(t, method, strings.Repeat("x", 65536), 8192)
		most.Target = "/" + strings.Repeat("a", 499)
		roundTrip(t, most, "\n", 3000)
		roundTrip(t, most, strings.Repeat("\x00", 100000), 100)
		most.Fields, most.Body = repeat("a", "b", 97), "x"
		roundTrip(t, most, "x", 1<<20)
	}
	roundTrip(t, build("GET", "/", "", append(repeat("a", "b", 98), field("TE", ""), field("te", ""))...), "x", 1<<20)
}

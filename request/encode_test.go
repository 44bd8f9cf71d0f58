package request_test

import (
	"strings"
	"testing"

	"spillway/api"
	"spillway/request"
)

func checkEncode(t *testing.T, r api.Request, want string, e api.Errno) {
	t.Helper()
	if s, got := request.Encode(r); s != want || got != e {
		t.Errorf("Encode of %s: %.200q, %d, want %.200q, %d", short(r), s, got, want, e)
	}
}

func checkKey(t *testing.T, r api.Request, kind int, name, want string, e api.Errno) {
	t.Helper()
	if s, got := request.Key(r, kind, name); s != want || got != e {
		t.Errorf("Key %d %.60q of %s: %.80q, %d, want %.80q, %d", kind, name, short(r), s, got, want, e)
	}
}

func TestEncodeOfExamples(t *testing.T) { // P7.3
	checkEncode(t, example(), "GET /a/../b%7e?x HTTP/1.1\r\nHost: h\r\nX-Request-Id: 7\r\nAccept: *\r\n\r\n", api.OK)
	r := api.Request{Id: 1000000000, Method: "BREW", Target: "/?", Host: "a.b:80", Body: "\r\n\x00"}
	checkEncode(t, r, "BREW /? HTTP/1.1\r\nHost: a.b:80\r\nX-Request-Id: 1000000000\r\nContent-Length: 3\r\n\r\n\r\n\x00", api.OK)
	l := fields("b", "1", "TE", "x", "a", "", "connection", "C, te", "B", "2", "c", "3", "Keep-Alive", "y")
	checkEncode(t, build("OPTIONS", "/", "", l...), "OPTIONS / HTTP/1.1\r\nHost: h\r\nX-Request-Id: 5\r\nb: 1\r\na: \r\nB: 2\r\n\r\n", api.OK)
	checkEncode(t, build("POST", "/", "xy", l...), "POST / HTTP/1.1\r\nHost: h\r\nX-Request-Id: 5\r\nb: 1\r\na: \r\nB: 2\r\nContent-Length: 2\r\n\r\nxy", api.OK)
}

func TestEncodeOfMethods(t *testing.T) { // P7.3
	for s, tail := range map[string]string{
		"GET":     "\r\n",
		"HEAD":    "\r\n",
		"TRACE":   "\r\n",
		"OPTIONS": "\r\n",
		"DELETE":  "\r\n",
		"BREW":    "\r\n",
		"post":    "\r\n",
		"POST":    "Content-Length: 0\r\n\r\n",
		"PUT":     "Content-Length: 0\r\n\r\n",
		"PATCH":   "Content-Length: 0\r\n\r\n",
	} {
		head := s + " /%7e?%7e HTTP/1.1\r\nHost: h\r\nX-Request-Id: 5\r\n"
		checkEncode(t, build(s, "/%7e?%7e", ""), head+tail, api.OK)
		if isOne(s, "GET HEAD TRACE") {
			checkEncode(t, build(s, "/%7e?%7e", "x"), "", api.ErrArg)
			continue
		}
		for n, digits := range map[int]string{1: "1", 9: "9", 10: "10", 65535: "65535", 65536: "65536"} {
			body := strings.Repeat("b", n)
			checkEncode(t, build(s, "/%7e?%7e", body), head+"Content-Length: "+digits+"\r\n\r\n"+body, api.OK)
		}
		checkEncode(t, build(s, "/", strings.Repeat("b", 65537)), "", api.ErrLong)
	}
}

func TestEncodeOfFaults(t *testing.T) { // P7.3
	checkEncode(t, api.Request{}, "", api.ErrRange)
	checkEncode(t, build("", "/", ""), "", api.ErrForm)
	checkEncode(t, build("CONNECT", "/", ""), "", api.ErrDown)
	checkEncode(t, build("GET", "a", ""), "", api.ErrForm)
	checkEncode(t, build("GET", "/"+strings.Repeat("a", 500), ""), "", api.ErrLong)
	checkEncode(t, changed(func(r *api.Request) { r.Host = "H" }), "", api.ErrForm)
	checkEncode(t, build("GET", "/", "", field("HOST", "h")), "", api.ErrTwice)
	checkEncode(t, build("GET", "/", "x"), "", api.ErrArg)
}

func TestKeyOfExamples(t *testing.T) { // P7.6
	checkKey(t, example(), api.CfPath, "", "/b~", api.OK)
	checkKey(t, example(), api.CfHost, "", "h", api.OK)
	checkKey(t, example(), api.CfField, "accept", "*", api.OK)
	checkKey(t, example(), api.CfField, "cookie", "", api.ErrNone)
	checkKey(t, build("GET", "/..?/a", ""), api.CfPath, "", "/", api.OK)
	checkKey(t, build("GET", "/%3f?", ""), api.CfPath, "", "/%3F", api.OK)
	checkKey(t, build("PUT", "/a/%2E%2e/b/.", "x"), api.CfPath, "", "/b/", api.OK)
	checkKey(t, changed(func(r *api.Request) { r.Host = "a-1.b:80" }), api.CfHost, "", "a-1.b:80", api.OK)
}

func TestKeyOfFields(t *testing.T) { // P7.6
	l := fields("b", "1", "A", "", "a", "2", "B", "3", "Connection", "c, b", "C", "4, 5", strings.Repeat("N", 64), "6")
	r := build("GET", "/", "", l...)
	for name, want := range map[string]string{"b": "1", "B": "1", "a": "", "A": "", "c": "4, 5", "C": "4, 5", "CONNECTION": "c, b", strings.Repeat("n", 64): "6"} {
		checkKey(t, r, api.CfField, name, want, api.OK)
	}
	for _, name := range []string{"d", "aa", "connectio", "host", "Host", "x-request-id", "content-length", "transfer-encoding", "te", strings.Repeat("n", 63)} {
		checkKey(t, r, api.CfField, name, "", api.ErrNone)
	}
	for _, name := range []string{"", " ", "a b", "b ", "b:", "\xff", "é", strings.Repeat("n", 65)} {
		checkKey(t, r, api.CfField, name, "", api.ErrArg)
	}
	checkKey(t, build("GET", "/", ""), api.CfField, "a", "", api.ErrNone)
}

func TestKeyOfKinds(t *testing.T) { // P7.6
	for _, kind := range []int{-1 << 63, -1, 0, 4, 5, 1<<63 - 1} {
		for _, name := range []string{"", "accept", "a b"} {
			checkKey(t, example(), kind, name, "", api.ErrArg)
		}
	}
	for _, kind := range []int{api.CfPath, api.CfHost} {
		for _, name := range []string{"accept", "a b", " ", "\x00"} {
			checkKey(t, example(), kind, name, "", api.ErrArg)
		}
	}
}

func TestKeyOfFaults(t *testing.T) { // P7.6
	faulty(func(r api.Request) {
		for kind := 0; kind < 5; kind++ {
			for _, name := range []string{"", "ACCEPT", "a", "a b"} {
				want, e := key(r, kind, name)
				checkKey(t, r, kind, name, want, e)
			}
		}
	})
	checkKey(t, api.Request{}, api.CfPath, "", "", api.ErrRange)
	checkKey(t, api.Request{}, api.CfPath, "a", "", api.ErrArg)
	checkKey(t, build("GET", "/", "x"), api.CfHost, "", "", api.ErrArg)
	checkKey(t, build("GET", "/", "x", fields("A", "b")...), api.CfField, "a", "", api.ErrArg)
	checkKey(t, build("CONNECT", "/", ""), api.CfField, "a", "", api.ErrDown)
}

func TestKeyOfManyTargets(t *testing.T) { // P7.6
	next := numbers(3)
	for range 20000 {
		r := withTarget(anyTarget(next))
		want, e := key(r, api.CfPath, "")
		checkKey(t, r, api.CfPath, "", want, e)
	}
}

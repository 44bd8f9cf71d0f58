package request_test

import (
	"strings"
	"testing"

	"spillway/api"
	"spillway/headers"
	"spillway/request"
)

// checkCheck fails if Check does not return part and e.
func checkCheck(t *testing.T, r api.Request, part string, e api.Errno) {
	t.Helper()
	if got, n := request.Check(r); got != part || n != e {
		t.Errorf("Check of %s: %s, %d, want %s, %d", short(r), got, n, part, e)
	}
}

// compareCheck fails if Check does not return what the model does.
func compareCheck(t *testing.T, r api.Request) {
	t.Helper()
	part, e := check(r)
	checkCheck(t, r, part, e)
}

func checkMethod(t *testing.T, s string, safe, idempotent bool, e api.Errno) {
	t.Helper()
	if x, y, got := request.Method(s); x != safe || y != idempotent || got != e {
		t.Errorf("Method(%.60q): %v, %v, %d, want %v, %v, %d", s, x, y, got, safe, idempotent, e)
	}
}

func TestCheckOfExamples(t *testing.T) { // P7.1
	checkCheck(t, example(), "", api.OK)
	checkCheck(t, changed(func(r *api.Request) { r.Body = "x" }), "body", api.ErrArg)
	checkCheck(t, changed(func(r *api.Request) { r.Target = "a" }), "target", api.ErrForm)
	checkCheck(t, build("POST", "/", ""), "", api.OK)
	checkCheck(t, api.Request{}, "id", api.ErrRange)
}

func TestCheckOfIds(t *testing.T) { // P7.1
	for id, e := range map[int64]api.Errno{
		-1 << 63:      api.ErrRange,
		-7:            api.ErrRange,
		0:             api.ErrRange,
		1:             api.OK,
		1000000000:    api.OK,
		1000000001:    api.ErrRange,
		1<<32 + 7:     api.ErrRange,
		1<<63 - 1:     api.ErrRange,
		1000000000000: api.ErrRange,
	} {
		part := "id"
		if e == api.OK {
			part = ""
		}
		checkCheck(t, changed(func(r *api.Request) { r.Id = id }), part, e)
	}
}

func TestMethodOfExamples(t *testing.T) { // P7.1
	for _, s := range strings.Fields("GET HEAD OPTIONS TRACE") {
		checkMethod(t, s, true, true, api.OK)
	}
	checkMethod(t, "PUT", false, true, api.OK)
	checkMethod(t, "DELETE", false, true, api.OK)
	for _, s := range strings.Fields("POST PATCH CONNECT get Get head options trace put delete GETS GE G 0 ! QUERY PROPFIND LOCK " + strings.Repeat("M", 16)) {
		checkMethod(t, s, false, false, api.OK)
	}
	for _, s := range []string{"", " ", "a b", "GET ", " GET", "GET\x00", "GET\n", "GÉT", "(", strings.Repeat("M", 17), strings.Repeat("M", 64), strings.Repeat("M", 65)} {
		checkMethod(t, s, false, false, api.ErrForm)
	}
}

func TestCheckOfMethods(t *testing.T) { // P7.1
	for _, s := range strings.Fields("GET HEAD OPTIONS TRACE PUT DELETE POST PATCH get connect Connect CONNECTS CONNEC ! 1 " + strings.Repeat("M", 16)) {
		checkCheck(t, build(s, "/", ""), "", api.OK)
	}
	for _, s := range []string{"", "a b", "CONNECT ", "/", strings.Repeat("M", 17)} {
		checkCheck(t, build(s, "/", ""), "method", api.ErrForm)
	}
	checkCheck(t, build("CONNECT", "/", ""), "method", api.ErrDown)
	checkCheck(t, build("CONNECT", "example.com:80", "x"), "method", api.ErrDown)
}

func TestMethodsOfEachByte(t *testing.T) { // P7.1
	for c := range 256 {
		b := string([]byte{byte(c)})
		for _, s := range []string{b, b + "T", "G" + b, "GE" + b} {
			e := api.ErrForm
			if methodLike.MatchString(s) {
				e = api.OK
			}
			known := isOne(s, "GET HEAD OPTIONS TRACE PUT DELETE")
			checkMethod(t, s, known && !isOne(s, "PUT DELETE"), known, e)
			compareCheck(t, build(s, "/", ""))
		}
		compareCheck(t, build("GET"+b, "/", ""))
		compareCheck(t, build(b+"GET", "/", ""))
	}
}

func TestCheckOfTargets(t *testing.T) { // P7.1, P7.2
	for _, s := range []string{"", "a", "*", "//h/", "http://h/", "/ ", "/\xff", "/?%", "/" + strings.Repeat("a", 499), "/" + strings.Repeat("a", 500), strings.Repeat("a", 500), strings.Repeat("a", 501), strings.Repeat("/", 500), strings.Repeat("/", 501)} {
		part, e := "target", target(s)
		if e == api.OK {
			part = ""
		}
		checkCheck(t, build("GET", s, ""), part, e)
	}
}

func TestCheckOfHosts(t *testing.T) { // P7.1
	withHost := func(s string) api.Request { return changed(func(r *api.Request) { r.Host = s }) }
	for _, s := range []string{"h", "example.com", "a-1.b:80", "127.0.0.1:8080", "::1", ":", ".", "-", "09az", strings.Repeat("h", 100)} {
		checkCheck(t, withHost(s), "", api.OK)
	}
	for _, s := range []string{"", "H", "eXample.com", "a b", "[::1]", "a_b", "a/b", "h\x00", "h\n", "é", strings.Repeat("h", 101), strings.Repeat("h", 1<<20), strings.Repeat("H", 101)} {
		checkCheck(t, withHost(s), "host", api.ErrForm)
	}
	for c := range 256 {
		b := string([]byte{byte(c)})
		for _, s := range []string{b, b + "h", "h" + b, "h" + b + "h"} {
			compareCheck(t, withHost(s))
		}
	}
}

func TestCheckOfFields(t *testing.T) { // P7.1
	for _, l := range [][]api.HdField{
		fields(),
		fields("Accept", "*", "accept", ""),
		fields("Host-Name", "x", "ost", "x", "X-Request-Ids", "x", "Content-Lengt", "x"),
		fields("Transfer-Encodings", "x"),
		fields("Connection", "host, content-length"),
		fields("TE", "trailers", "Upgrade", "x"),
		fields("Connection", `"a, b"`),
		fields("a", `"`),
	} {
		checkCheck(t, build("GET", "/", "", l...), "", api.OK)
	}
	for _, name := range strings.Fields("Host host hOST X-Request-Id x-request-id X-REQUEST-ID Content-Length content-length CONTENT-length Transfer-Encoding transfer-encoding TRANSFER-ENCODING") {
		checkCheck(t, build("GET", "/", "", field(name, "")), "fields", api.ErrTwice)
		checkCheck(t, build("POST", "/", "abc", field("a", "b"), field(name, "3"), field("c", "d")), "fields", api.ErrTwice)
		checkCheck(t, build("GET", "/", "", field("Connection", name), field(name, "h")), "fields", api.ErrTwice)
	}
	for _, l := range [][]api.HdField{
		fields("a b", "c"),
		fields("", ""),
		fields("a", " b"),
		fields("a", "\r\n"),
		fields("a", "b", "c", "\x7f"),
		fields("Connection", `"`),
		fields("a", "b", "connection", `close, "a`, "c", "d"),
	} {
		checkCheck(t, build("GET", "/", "", l...), "fields", api.ErrForm)
	}
	checkCheck(t, build("GET", "/", "", field("a", strings.Repeat("v", 2001))), "fields", api.ErrLong)
	checkCheck(t, build("GET", "/", "", field("a", strings.Repeat("v", 2000))), "", api.OK)
}

func TestCheckOfTheFirstErrorOfFields(t *testing.T) { // P7.1
	twice, form, quote := field("host", "h"), field("a b", "c"), field("Connection", `"`)
	many := repeat("a", "b", 99)
	checkCheck(t, build("GET", "/", "", twice, form), "fields", api.ErrForm)
	checkCheck(t, build("GET", "/", "", twice, field("a", strings.Repeat("v", 2001))), "fields", api.ErrLong)
	checkCheck(t, build("GET", "/", "", quote, twice), "fields", api.ErrTwice)
	checkCheck(t, build("GET", "/", "", append(many, twice)...), "fields", api.ErrTwice)
	checkCheck(t, build("GET", "/", "", append(many, quote)...), "fields", api.ErrForm)
	checkCheck(t, build("GET", "/", "", append(many, twice, twice)...), "fields", api.ErrLong)
	checkCheck(t, build("GET", "/", "", append(many, form, form)...), "fields", api.ErrLong)
}

func TestCheckOfManyFields(t *testing.T) { // P7.1
	many := func(n int) []api.HdField { return repeat("a", "b", n) }
	checkCheck(t, build("GET", "/", "", many(98)...), "", api.OK)
	checkCheck(t, build("GET", "/", "", many(99)...), "fields", api.ErrLong)
	checkCheck(t, build("GET", "/", "", many(100)...), "fields", api.ErrLong)
	checkCheck(t, build("GET", "/", "", many(101)...), "fields", api.ErrLong)
	// Content-Length is one more.
	checkCheck(t, build("OPTIONS", "/", "", many(98)...), "", api.OK)
	checkCheck(t, build("OPTIONS", "/", "x", many(98)...), "fields", api.ErrLong)
	checkCheck(t, build("OPTIONS", "/", "x", many(97)...), "", api.OK)
	for _, s := range strings.Fields("POST PUT PATCH") {
		checkCheck(t, build(s, "/", "", many(98)...), "fields", api.ErrLong)
		checkCheck(t, build(s, "/", "", many(97)...), "", api.OK)
		checkCheck(t, build(s, "/", "x", many(97)...), "", api.OK)
	}
	// Also if the body is a fault.
	checkCheck(t, build("GET", "/", "x", many(98)...), "fields", api.ErrLong)
	checkCheck(t, build("GET", "/", "x", many(97)...), "body", api.ErrArg)
	// Those that Strip takes away do not count.
	checkCheck(t, build("GET", "/", "", append(many(98), fields("TE", "x", "keep-alive", "y")...)...), "", api.OK)
	checkCheck(t, build("GET", "/", "", append(many(99), field("Connection", "A"))...), "", api.OK)
	checkCheck(t, build("GET", "/", "", append(many(99), field("Connection", "b"))...), "fields", api.ErrLong)
}

// sized is a request whose written fields have lines of n bytes, n at least 1000.
func sized(t *testing.T, method, body string, n int) api.Request {
	t.Helper()
	r := build(method, "/", body, repeat("long", strings.Repeat("v", 1000-8), n/1000-1)...)
	lines, _ := headers.Print(written(r))
	r.Fields = append(r.Fields, field("rest", strings.Repeat("w", n-len(lines)-8)))
	if s, e := headers.Print(written(r)); e == api.OK && len(s) != n {
		t.Fatalf("these lines have %d bytes, not %d", len(s), n)
	}
	return r
}

func TestCheckOfLongFields(t *testing.T) { // P7.1
	for _, x := range []struct{ method, body string }{{"GET", ""}, {"DELETE", ""}, {"DELETE", "x"}, {"POST", ""}, {"POST", "abcdefghijkl"}, {"PUT", ""}, {"PATCH", ""}, {"BREW", ""}, {"BREW", strings.Repeat("x", 65536)}} {
		checkCheck(t, sized(t, x.method, x.body, 8191), "", api.OK)
		checkCheck(t, sized(t, x.method, x.body, 8192), "", api.OK)
		checkCheck(t, sized(t, x.method, x.body, 8193), "fields", api.ErrLong)
	}
	// The Id and the host are in these lines, too.
	r := sized(t, "GET", "", 8192)
	r.Id = 10
	checkCheck(t, r, "fields", api.ErrLong)
	r.Id, r.Host = 9, "host"
	checkCheck(t, r, "fields", api.ErrLong)
	// Lines of Fields may be longer if Strip takes some away.
	r = sized(t, "GET", "", 8180)
	r.Fields = append(r.Fields, field("TE", strings.Repeat("x", 30)))
	checkCheck(t, r, "", api.OK)
	r.Fields = append(r.Fields, field("TE", strings.Repeat("x", 30)))
	checkCheck(t, r, "fields", api.ErrLong)
}

func TestCheckOfBodies(t *testing.T) { // P7.1
	most := strings.Repeat("x", 65536)
	for _, s := range strings.Fields("GET HEAD TRACE") {
		checkCheck(t, build(s, "/", ""), "", api.OK)
		checkCheck(t, build(s, "/", "x"), "body", api.ErrArg)
		checkCheck(t, build(s, "/", "\x00"), "body", api.ErrArg)
		checkCheck(t, build(s, "/", most), "body", api.ErrArg)
		checkCheck(t, build(s, "/", most+"x"), "body", api.ErrLong)
	}
	for _, s := range strings.Fields("OPTIONS PUT DELETE POST PATCH BREW get") {
		checkCheck(t, build(s, "/", ""), "", api.OK)
		checkCheck(t, build(s, "/", "\r\n\xff\x00"), "", api.OK)
		checkCheck(t, build(s, "/", most), "", api.OK)
		checkCheck(t, build(s, "/", most+"x"), "body", api.ErrLong)
	}
}

// faulty calls f with requests of all combinations of parts, with and without faults.
func faulty(f func(r api.Request)) {
	most := strings.Repeat("x", 65536)
	lists := [][]api.HdField{
		nil,
		fields("Accept", "*", "TE", "x"),
		fields("a", " "),
		fields("Host", "h"),
		fields("Connection", `"`),
		repeat("a", "b", 98),
		repeat("a", "b", 99),
		repeat("a", "b", 101),
	}
	for _, id := range []int64{0, 1, 1000000001} {
		for _, method := range []string{"", "GET", "CONNECT", "PUT", "DELETE", "a b"} {
			for _, target := range []string{"", "/", "a", "/" + strings.Repeat("#", 500)} {
				for _, host := range []string{"", "h", "H", strings.Repeat("h", 101)} {
					for _, l := range lists {
						for _, body := range []string{"", "x", most, most + "x"} {
							f(api.Request{Id: id, Method: method, Target: target, Host: host, Fields: l, Body: body})
						}
					}
				}
			}
		}
	}
}

func TestCheckOfAllCombinations(t *testing.T) { // P7.1, P7.3
	faulty(func(r api.Request) {
		compareCheck(t, r)
		want, e := encode(r)
		checkEncode(t, r, want, e)
	})
}

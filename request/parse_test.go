package request_test

import (
	"fmt"
	"strings"
	"testing"

	"spillway/api"
	"spillway/request"
)

// own is the lines that each message has.
const own = "Host: h\r\nX-Request-Id: 5\r\n"

func checkParse(t *testing.T, s string, want api.Request, used int, e api.Errno) {
	t.Helper()
	if r, n, got := request.Parse([]byte(s)); !same(r, want) || n != used || got != e {
		t.Errorf("Parse(%.200q): %s, %d, %d, want %s, %d, %d", s, short(r), n, got, short(want), used, e)
	}
}

// wrong fails if Parse does not return e.
func wrong(t *testing.T, s string, e api.Errno) {
	t.Helper()
	checkParse(t, s, api.Request{}, 0, e)
}

// compareParse fails if Parse does not return what the model does.
func compareParse(t *testing.T, s string) {
	t.Helper()
	r, used, e := parse([]byte(s))
	checkParse(t, s, r, used, e)
}

func TestParseOfExamples(t *testing.T) { // P7.4
	s := "GET / HTTP/1.1\r\n" + own + "\r\n"
	checkParse(t, s, build("GET", "/", ""), len(s), api.OK)
	checkParse(t, s+s, build("GET", "/", ""), len(s), api.OK)
	checkParse(t, s+"\xff", build("GET", "/", ""), len(s), api.OK)
	s = "BREW /a/../b%7e?x HTTP/1.1\r\nb:1\r\nhOST:\th \r\nConnection: close, b\r\nCONTENT-length:3\r\nTE: \r\nx-request-id: 5\r\nB:  2\r\n\r\na\r\n"
	checkParse(t, s, build("BREW", "/a/../b%7e?x", "a\r\n", fields("b", "1", "Connection", "close, b", "TE", "", "B", "2")...), len(s), api.OK)
	checkParse(t, s+"\r\n", build("BREW", "/a/../b%7e?x", "a\r\n", fields("b", "1", "Connection", "close, b", "TE", "", "B", "2")...), len(s), api.OK)
	wrong(t, "GET / HTTP/1.0\r\n", api.ErrForm)
	wrong(t, "GET ", api.ErrMore)
	wrong(t, "", api.ErrMore)
}

func TestParseOfRequestLines(t *testing.T) { // P7.4
	for _, line := range []string{
		"\n", "\r\n", " \r\n", "  \r\n", "GET\r\n", "GET /\r\n", "GET / \r\n", "GET / HTTP/1.1\n", "GET / HTTP/1.1\r\r\n", "GET / HTTP/1.1 \r\n", "GET / HTTP/1.1\n\r\n", "GET / HTTP/1.1\r \n",
		"GET / HTTP/1.0\r\n", "GET / HTTP/1.2\r\n", "GET / HTTP/2\r\n", "GET / http/1.1\r\n", "GET / HTTP/1.10\r\n", "GET / xHTTP/1.1\r\n", "GET / HTTP/1.1x\r\n",
		" GET / HTTP/1.1\r\n", "GET  / HTTP/1.1\r\n", "GET /  HTTP/1.1\r\n", " / HTTP/1.1\r\n", "GET  HTTP/1.1\r\n", "GET HTTP/1.1\r\n", "  HTTP/1.1\r\n", "GET / a HTTP/1.1\r\n", "GET\t/\tHTTP/1.1\r\n", "GET / / HTTP/1.1\r\n", "\r\nGET / HTTP/1.1\r\n",
	} {
		wrong(t, line, api.ErrForm)
		wrong(t, line+own+"\r\n", api.ErrForm)
		wrong(t, line+"\xff\n", api.ErrForm)
	}
	// These lines have the form of lines, so that other errors come first.
	for _, line := range []string{"\x00 \x00 HTTP/1.1\r\n", "get * HTTP/1.1\r\n", "G\rT \r HTTP/1.1\r\n", "CONNECT h:80 HTTP/1.1\r\n", "\tGET\t / HTTP/1.1\r\n", strings.Repeat("G", 510) + " " + strings.Repeat("a", 501) + " HTTP/1.1\r\n"} {
		wrong(t, line, api.ErrMore)
		wrong(t, line+own, api.ErrMore)
		wrong(t, line+strings.Repeat("x", 8193), api.ErrLong)
		wrong(t, line+own+"Content-Length: 65537\r\n\r\n", api.ErrLong)
	}
	wrong(t, "CONNECT h:80 HTTP/1.1\r\n"+own+"\r\n", api.ErrDown)
	wrong(t, "CONNECT / HTTP/1.1\r\n"+own+"Content-Length: 1\r\n\r\n", api.ErrDown)
	wrong(t, "GET * HTTP/1.1\r\n"+own+"\r\n", api.ErrForm)
	wrong(t, "G\tT / HTTP/1.1\r\n"+own+"\r\n", api.ErrForm)
	wrong(t, strings.Repeat("G", 17)+" / HTTP/1.1\r\n"+own+"\r\n", api.ErrForm)
	wrong(t, "GET /"+strings.Repeat("a", 500)+" HTTP/1.1\r\n"+own+"\r\n", api.ErrLong)
}

func TestParseOfLongRequestLines(t *testing.T) { // P7.4
	for _, c := range []string{"x", " ", "\r", "\x00"} {
		for n := 1020; n < 1030; n++ {
			s := strings.Repeat(c, n)
			compareParse(t, s)
			compareParse(t, s+"\n")
			compareParse(t, s+"\r\n")
			compareParse(t, "GET /"+s[16:]+" HTTP/1.1\r\n")
		}
	}
	wrong(t, strings.Repeat("x", 1023), api.ErrMore)
	wrong(t, strings.Repeat("x", 1024), api.ErrLong)
	wrong(t, strings.Repeat("x", 1<<20), api.ErrLong)
	wrong(t, strings.Repeat("x", 1023)+"\n", api.ErrForm)
	wrong(t, strings.Repeat("x", 1024)+"\n", api.ErrLong)
	line := "GET /" + strings.Repeat("a", 1024-15) + " HTTP/1.1\r\n"
	wrong(t, line[5:], api.ErrForm)
	wrong(t, line, api.ErrLong)
	line = "GET /" + strings.Repeat("a", 1024-16) + "HTTP/1.1\r\n"
	wrong(t, line, api.ErrForm)
	line = "GET " + strings.Repeat("a", 1024-15) + " HTTP/1.1\r\n"
	wrong(t, line, api.ErrMore)
	wrong(t, line+own+"\r\n", api.ErrLong)
}

func TestParseOfLines(t *testing.T) { // P7.4
	const line = "POST / HTTP/1.1\r\n"
	for s, e := range map[string]api.Errno{
		"":                                 api.ErrMore,
		"\r":                               api.ErrMore,
		own:                                api.ErrMore,
		own + "\r":                         api.ErrMore,
		"x":                                api.ErrMore,
		"x\r\n":                            api.ErrForm,
		"a: b\n":                           api.ErrForm,
		own + "\n":                         api.ErrForm,
		own + " a: b\r\n":                  api.ErrForm,
		own + "a : b\r\n":                  api.ErrForm,
		own + "a: \x00\r\n":                api.ErrForm,
		"a: " + strings.Repeat("v", 2001):  api.ErrMore,
		strings.Repeat("a:\r\n", 100):      api.ErrMore,
		strings.Repeat("a:\r\n", 101):      api.ErrLong,
		own + strings.Repeat("a:\r\n", 99): api.ErrLong,
		strings.Repeat("a", 8192):          api.ErrMore,
		strings.Repeat("a", 8193):          api.ErrLong,
		own + strings.Repeat("a", 8192):    api.ErrLong,
		strings.Repeat("a", 8191) + "\n":   api.ErrForm,
		strings.Repeat("a", 8192) + "\n":   api.ErrLong,
		strings.Repeat("host: h\r\n", 3):   api.ErrMore,
		"transfer-encoding: chunked\r\n":   api.ErrMore,
		"content-length: x\r\n":            api.ErrMore,
		"x-request-id: 0\r\n":              api.ErrMore,
		own + "content-length: 65537\r\n":  api.ErrMore,
		"a: " + strings.Repeat("v", 2001) + "\r\n": api.ErrLong,
	} {
		wrong(t, line+s, e)
		wrong(t, "CONNECT * HTTP/1.1\r\n"+s, e)
	}
}

func TestParseOfLongLines(t *testing.T) { // P7.4
	// These lines have 8192 bytes and no blanks, so that they would be longer if they were written.
	long := strings.Repeat("a:"+strings.Repeat("v", 78)+"\r\n", 97)
	rest := "Host:h\r\nX-Request-Id:5\r\n"
	last := "b:" + strings.Repeat("w", 8192-len(long)-len(rest)-6) + "\r\n\r\n"
	s := "GET / HTTP/1.1\r\n" + long + rest + last
	wrong(t, s, api.ErrLong)
	compareParse(t, s)
	wrong(t, strings.Replace(s, "Host", "Hose", 1), api.ErrForm)
	wrong(t, strings.Replace(s, ":5", ":x", 1), api.ErrForm)
	// These are read although all lines would be too long with blanks, since what is read of Fields, and what is written, is not.
	l := append(repeat("a", strings.Repeat("v", 200), 35), field("TE", strings.Repeat("w", 1009)))
	s = "GET / HTTP/1.1\r\n" + strings.ReplaceAll(own+lines(l), ": ", ":")
	checkParse(t, s, build("GET", "/", "", l...), len(s), api.OK)
	wrong(t, strings.Replace(s, "w", "ww", 1), api.ErrLong)
	compareParse(t, s)
	// Check is asked about an empty body, so that a Content-Length for which there is no room any more makes no difference.
	l = append(repeat("a", strings.Repeat("v", 200), 35), field("b", strings.Repeat("w", 8192-35*205-len(own)-7)))
	s = "DELETE / HTTP/1.1\r\n" + strings.ReplaceAll(own+"Content-Length: 1\r\n"+lines(l), ": ", ":") + "x"
	checkParse(t, s, build("DELETE", "/", "x", l...), len(s), api.OK)
	checkEncode(t, build("DELETE", "/", "x", l...), "", api.ErrLong)
	wrong(t, strings.Replace(s, "w", "ww", 1), api.ErrLong)
}

func TestParseOfOwnFields(t *testing.T) { // P7.4
	post := func(lines string) string { return "POST / HTTP/1.1\r\n" + lines + "\r\n" }
	for _, lines := range []string{
		"", "Host: h\r\n", "X-Request-Id: 5\r\n",
		own + "host: h\r\n", own + "HOST:\r\n", own + "X-REQUEST-ID: 5\r\n", own + "x-request-id: 6\r\n", own + own,
		own + "Content-Length: 0\r\ncontent-length: 0\r\n", own + "Content-Length: 0\r\nContent-Length: 1\r\n",
		own + "Transfer-Encoding: chunked\r\n", own + "transfer-ENCODING:\r\n", own + "Content-Length: 0\r\nTransfer-Encoding: identity\r\n",
	} {
		wrong(t, post(lines), api.ErrForm)
	}
	for _, s := range []string{"", "x", "-1", "-0", "+1", "00", "05", "5 ", "1.0", "0x5", "5,5", "5, 5", "1e3", "1_0", "\"5\"", "-", "-99999999999999999999", "099999999999999999999", "9999999999999999999x"} {
		if strings.TrimSpace(s) != "5" {
			wrong(t, post("Host: h\r\nX-Request-Id: "+s+"\r\n"), api.ErrForm)
			wrong(t, post(own+"Content-Length: "+s+"\r\n"), api.ErrForm)
			wrong(t, post("Host: h\r\nX-Request-Id: "+s+"\r\nContent-Length: 65537\r\n"), api.ErrForm)
			wrong(t, post("Host: h\r\nX-Request-Id: 0\r\nContent-Length: "+s+"\r\n"), api.ErrForm)
		}
	}
	for _, s := range []string{"0", "1000000001", "9223372036854775807", "9223372036854775808", "18446744073709551617", "99999999999999999999999", strings.Repeat("9", 1000)} {
		wrong(t, post("Host: h\r\nX-Request-Id: "+s+"\r\n"), api.ErrRange)
		wrong(t, post("Host: h\r\nX-Request-Id: "+s+"\r\nContent-Length: 1\r\n"), api.ErrRange)
		wrong(t, post("Host: h\r\nX-Request-Id: "+s+"\r\nContent-Length: 65537\r\n"), api.ErrLong)
		wrong(t, "GET * HTTP/1.1\r\nHost: H\r\nX-Request-Id: "+s+"\r\nContent-Length: 1\r\n\r\n", api.ErrRange)
	}
	for _, s := range []string{"65537", "9223372036854775807", "9223372036854775808", "18446744073709551616", "18446744073709551617", strings.Repeat("9", 1000)} {
		wrong(t, post(own+"Content-Length: "+s+"\r\n"), api.ErrLong)
		wrong(t, "GET * HTTP/1.1\r\nHost: H\r\nX-Request-Id: 0\r\nContent-Length: "+s+"\r\n\r\n", api.ErrLong)
	}
	s := post("Host:h\r\nX-Request-Id:1000000000\r\n")
	want := build("POST", "/", "")
	want.Id = 1000000000
	checkParse(t, s, want, len(s), api.OK)
}

func TestParseOfFaults(t *testing.T) { // P7.4
	get := func(lines string) string { return "GET / HTTP/1.1\r\n" + lines + "\r\n" }
	wrong(t, get("Host:\r\nX-Request-Id: 5\r\n"), api.ErrForm)
	wrong(t, get("Host: H\r\nX-Request-Id: 5\r\n"), api.ErrForm)
	wrong(t, get("Host: "+strings.Repeat("h", 101)+"\r\nX-Request-Id: 5\r\n"), api.ErrForm)
	wrong(t, get(own+"Connection: \"\r\n"), api.ErrForm)
	// A body that must not be is found after all other faults.
	wrong(t, get("Host: H\r\nX-Request-Id: 0\r\nContent-Length: 1\r\n"), api.ErrRange)
	wrong(t, get("Host: H\r\nX-Request-Id: 5\r\nContent-Length: 1\r\n"), api.ErrForm)
	wrong(t, get(own+"Connection: \"\r\nContent-Length: 1\r\n"), api.ErrForm)
	for _, s := range strings.Fields("GET HEAD TRACE") {
		for _, n := range []string{"1", "10", "65536"} {
			wrong(t, s+" / HTTP/1.1\r\n"+own+"Content-Length: "+n+"\r\n\r\n", api.ErrArg)
			wrong(t, s+" / HTTP/1.1\r\n"+own+"Content-Length: "+n+"\r\n\r\n"+strings.Repeat("x", 65536), api.ErrArg)
		}
		message := s + " / HTTP/1.1\r\n" + own + "Content-Length: 0\r\n\r\n"
		checkParse(t, message+"x", build(s, "/", ""), len(message), api.OK)
	}
}

func TestParseOfManyFields(t *testing.T) { // P7.4
	// With Content-Length, the 98 fields of a POST would be written as 101.
	many := func(n int) string { return strings.Repeat("a: b\r\n", n) + own }
	for n := 96; n < 102; n++ {
		for _, line := range []string{"GET / HTTP/1.1\r\n", "POST / HTTP/1.1\r\n", "DELETE / HTTP/1.1\r\n"} {
			for _, more := range []string{"", "Content-Length: 0\r\n", "Content-Length: 1\r\n"} {
				compareParse(t, line+many(n)+more+"\r\nx")
			}
		}
	}
	wrong(t, "POST / HTTP/1.1\r\n"+many(98)+"\r\n", api.ErrLong)
	s := "DELETE / HTTP/1.1\r\n" + many(98) + "\r\n"
	checkParse(t, s, build("DELETE", "/", "", repeat("a", "b", 98)...), len(s), api.OK)
}

func TestParseOfBodies(t *testing.T) { // P7.4
	for _, n := range []int{0, 1, 2, 9, 10, 1000, 65535, 65536} {
		body := strings.Repeat("\n\xff\x00", n/3+1)[:n]
		s := "PUT / HTTP/1.1\r\n" + own + "Content-Length: " + fmt.Sprint(n) + "\r\n\r\n" + body
		checkParse(t, s, build("PUT", "/", body), len(s), api.OK)
		checkParse(t, s+"\n", build("PUT", "/", body), len(s), api.OK)
		wrong(t, s[:len(s)-1], api.ErrMore)
		wrong(t, s[:len(s)-n/2-1], api.ErrMore)
	}
	// Without a length there is no body.
	s := "PUT / HTTP/1.1\r\n" + own + "\r\n"
	checkParse(t, s+"xyz", build("PUT", "/", ""), len(s), api.OK)
}

func TestParseOfAllCombinations(t *testing.T) { // P7.4
	lines := []string{"Host: h\r\n", "HOST: H\r\n", "x-request-id: 5\r\n", "X-Request-Id:0\r\n", "Content-Length: 2\r\n", "content-length:0\r\n", "Content-Length: 65537\r\n", "Content-Length: 02\r\n", "Transfer-Encoding: x\r\n", "Connection: a\r\n", "Connection: \"\r\n", "a : b\r\n"}
	for _, line := range []string{"GET / HTTP/1.1\r\n", "POST /%7e HTTP/1.1\r\n", "CONNECT / HTTP/1.1\r\n", "PUT * HTTP/1.1\r\n"} {
		var visit func(s string, depth int)
		visit = func(s string, depth int) {
			for _, end := range []string{"", "\r\n", "\r\nx", "\r\nxy", "\r\nxyz"} {
				compareParse(t, s+end)
			}
			if depth == 4 {
				return
			}
			for _, more := range lines {
				visit(s+more, depth+1)
			}
		}
		visit(line, 0)
	}
}

// anyMessage is a message, or nearly one, that looks like a random one.
func anyMessage(next func(n int) int) string {
	pick := func(all ...string) string { return all[next(len(all))] }
	s := pick("GET", "POST", "PUT", "DELETE", "HEAD", "BREW") + " " + anyTarget(next) + " HTTP/1.1\r\n" + own
	for range next(4) {
		s += pick("a", "B", "te", "Connection") + ":" + pick("", " ", "  ", "\t") + pick("", "x", "a, b", "close") + pick("", " ") + "\r\n"
	}
	n := next(5)
	if n > 0 || next(2) == 0 {
		s += "Content-Length: " + fmt.Sprint(n) + "\r\n"
	}
	return s + "\r\n" + "\r\nxyz"[:n]
}

func TestParseOfManyMessages(t *testing.T) { // P7.4
	next := numbers(4)
	good := 0
	for range 20000 {
		s := anyMessage(next)
		compareParse(t, s)
		if _, _, e := request.Parse([]byte(s)); e == api.OK {
			good++
		}
		i := next(len(s))
		compareParse(t, s[:i]+string([]byte{byte(next(256))})+s[i+1:])
		compareParse(t, s[:i]+s[i+1:])
		compareParse(t, s[:i]+"\r\n: 1"[next(6):]+s[i:])
		compareParse(t, s[:i])
	}
	if good < 5000 {
		t.Errorf("only %d messages are good", good)
	}
}

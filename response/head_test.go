package response_test

import (
	"fmt"
	"strings"
	"testing"

	"spillway/api"
	"spillway/response"
)

// checkHead fails if Head does not return these results.
func checkHead(t *testing.T, s string, want api.RsHead, used int, e api.Errno) {
	t.Helper()
	h, n, got := response.Head([]byte(s))
	if !sameHead(h, want) || n != used || got != e {
		t.Errorf("Head(%s): %s, %d, %d, want %s, %d, %d", short(s), short(h), n, got, short(want), used, e)
	}
}

// compareHead fails if Head does not return what the model does.
func compareHead(t *testing.T, s string) {
	t.Helper()
	h, used, e := head(s)
	checkHead(t, s, h, used, e)
}

// plain is a head as short as any.
const plain = "HTTP/1.1 200 \r\n\r\n"

func TestHeadOfExamples(t *testing.T) { // P9.1
	for _, c := range []struct {
		s    string
		want api.RsHead
	}{
		{plain, api.RsHead{Minor: 1, Status: 200}},
		{"HTTP/1.0 404 Not Found\r\n\r\n", api.RsHead{Status: 404, Reason: "Not Found"}},
		{"HTTP/1.1 599  \t~ \r\n\r\n", api.RsHead{Minor: 1, Status: 599, Reason: " \t~ "}},
		{"HTTP/1.1 100 200 OK\r\nA: b\r\nc:\t d e \r\n\r\n", api.RsHead{Minor: 1, Status: 100, Reason: "200 OK", Fields: fields("A", "b", "c", "d e")}},
		{"HTTP/1.1 101 HTTP/1.1\r\nUpgrade:x\r\n\r\n", api.RsHead{Minor: 1, Status: 101, Reason: "HTTP/1.1", Fields: fields("Upgrade", "x")}},
		{"HTTP/1.1 200 OK\r\nContent-Length: 2\r\nContent-Length: 3\r\n\r\n", api.RsHead{Minor: 1, Status: 200, Reason: "OK", Fields: fields("Content-Length", "2", "Content-Length", "3")}},
	} {
		for _, after := range []string{"", "x", "\r\n", "\n", plain, "\xff", strings.Repeat("y", 9000)} {
			checkHead(t, c.s+after, c.want, len(c.s), api.OK)
		}
		for i := range len(c.s) {
			checkHead(t, c.s[:i], api.RsHead{}, 0, api.ErrMore)
		}
	}
}

func TestHeadOfEachStatus(t *testing.T) { // P9.1
	for n := range 1100 {
		for _, status := range []string{fmt.Sprintf("%03d", n), fmt.Sprint(n), fmt.Sprintf("%04d", n)} {
			want, used, e := api.RsHead{Status: n, Reason: "x"}, 18, api.OK
			if n < 100 || n > 599 || len(status) != 3 {
				want, used, e = api.RsHead{}, 0, api.ErrForm
			}
			checkHead(t, "HTTP/1.0 "+status+" x\r\n\r\n", want, used, e)
		}
	}
}

func TestHeadOfWrongLines(t *testing.T) { // P9.1
	for _, s := range []string{
		"", "\r", " ", "HTTP/1.1", "HTTP/1.1 ", "HTTP/1.1 200", "HTTP/1.1 200\r", "HTTP/1.1 200OK",
		"HTTP/1.2 200 OK", "HTTP/1.9 200 OK", "HTTP/2.0 200 OK", "HTTP/0.1 200 OK", "HTTP/1. 200 OK", "HTTP/1.10 200 OK", "HTTP/1.01 200 OK", "HTTP/11 200 OK", "HTTP/1 200 OK",
		"http/1.1 200 OK", "HTTp/1.1 200 OK", "HTTPS/1.1 200 OK", "ICY 200 OK", " HTTP/1.1 200 OK", "\r\nHTTP/1.1 200 OK",
		"HTTP/1.1  200 OK", "HTTP/1.1\t200 OK", "HTTP/1.1 200\tOK", "HTTP/1.1 200  OK\x00", "HTTP/1.1 2 00 OK", "HTTP/1.1 20 OK", "HTTP/1.1 2000 OK", "HTTP/1.1 +20 OK", "HTTP/1.1 -20 OK", "HTTP/1.1 2.0 OK", "HTTP/1.1 0200 OK", "HTTP/1.1 20x OK", "HTTP/1.1 x20 OK",
		"HTTP/1.1 200 O\rK", "HTTP/1.1 200 OK\r", "HTTP/1.1 200 O\x1fK", "HTTP/1.1 200 \x7f", "HTTP/1.1 200 \x80", "HTTP/1.1 200 \xc3\xa9",
		"GET / HTTP/1.1",
	} {
		checkHead(t, s+"\r\n\r\n", api.RsHead{}, 0, api.ErrForm)
		checkHead(t, s+"\r\nA: b\r\n\r\n", api.RsHead{}, 0, api.ErrForm)
		checkHead(t, s+"\r\n", api.RsHead{}, 0, api.ErrForm)
	}
	for _, s := range []string{"HTTP/1.1 200 OK\n\r\n", "HTTP/1.1 200 \n", "\n", "\r\n", "\n\n", "x\n" + plain} {
		checkHead(t, s, api.RsHead{}, 0, api.ErrForm)
	}
}

func TestHeadOfEachByte(t *testing.T) { // P9.1
	s := "HTTP/1.1 204 No \tContent\r\nA: b\r\n\r\n"
	for i := range len(s) + 1 {
		compareHead(t, s[:i]+s[min(i+1, len(s)):])
		for c := range 256 {
			b := string([]byte{byte(c)})
			compareHead(t, s[:i]+b+s[i:])
			compareHead(t, s[:i]+b+s[min(i+1, len(s)):])
			compareHead(t, s[:i]+b)
		}
	}
}

func TestHeadOfManyParts(t *testing.T) { // P9.1
	each([]string{"HTTP/1.1", "HTTP/1.0", " ", "200", "99", "\r\n", "\n", "A:b", "\r"}, 6, func(s string) { compareHead(t, s) })
	each([]string{" ", "OK", "\r\n", "\n", "A:", "\r", "\t"}, 5, func(s string) {
		compareHead(t, "HTTP/1.1 200"+s)
		compareHead(t, "HTTP/1.0 200 "+s)
	})
}

func TestHeadOfLongLines(t *testing.T) { // P9.1
	ends := []string{"", "\r", "\n", "\r\n", "\r\n\r\n", "\r\n\r\nmore", "x\r\n\r\n", "\x00\r\n\r\n", "\r\nA: b\r\n\r\n"}
	for n := 275; n < 310; n++ {
		for _, end := range ends {
			compareHead(t, "HTTP/1.1 200 "+strings.Repeat("x", n)+end)
			compareHead(t, strings.Repeat("x", n)+end)
			compareHead(t, strings.Repeat("\r", n)+end)
		}
	}
	first := "HTTP/1.1 200 "
	most := strings.Repeat("x", 287)
	checkHead(t, first+most+"\r\n\r\n", api.RsHead{Minor: 1, Status: 200, Reason: most}, 304, api.OK)
	checkHead(t, first+most+"\r", api.RsHead{}, 0, api.ErrMore)
	checkHead(t, first+most+"x", api.RsHead{}, 0, api.ErrMore)
	checkHead(t, first+most+"x\n", api.RsHead{}, 0, api.ErrForm)
	checkHead(t, first+most+"x\r", api.RsHead{}, 0, api.ErrLong)
	checkHead(t, first+most+"x\r\n\r\n", api.RsHead{}, 0, api.ErrLong)
	checkHead(t, strings.Repeat("\x00", 301), api.RsHead{}, 0, api.ErrMore)
	checkHead(t, strings.Repeat("\x00", 301)+"\n", api.RsHead{}, 0, api.ErrForm)
	checkHead(t, strings.Repeat("\x00", 302), api.RsHead{}, 0, api.ErrLong)
	checkHead(t, strings.Repeat("\x00", 1<<20)+"\n", api.RsHead{}, 0, api.ErrLong)
}

func TestHeadOfFields(t *testing.T) { // P9.1
	for _, c := range []struct {
		s string
		e api.Errno
	}{
		{"", api.ErrMore},
		{"\r", api.ErrMore},
		{"A", api.ErrMore},
		{"a b", api.ErrMore},
		{"A: b\r\n", api.ErrMore},
		{"\n", api.ErrForm},
		{"A: b\n\r\n", api.ErrForm},
		{"a b: c\r\n", api.ErrForm},
		{"a\r\n\r\n", api.ErrForm},
		{" a: b\r\n\r\n", api.ErrForm},
		{"A: b\r\n c\r\n\r\n", api.ErrForm},
		{"A: \x00\r\n\r\n", api.ErrForm},
		{"A:" + strings.Repeat("v", 2001) + "\r\n", api.ErrLong},
		{strings.Repeat("a:\r\n", 101), api.ErrLong},
		{strings.Repeat("a:\r\n", 100), api.ErrMore},
		{lines(long(8193)), api.ErrLong},
		{strings.Repeat("x", 8192), api.ErrMore},
		{strings.Repeat("x", 8193), api.ErrLong},
		{"a b: c\r\n" + lines(long(8193)), api.ErrForm},
	} {
		for _, line := range []string{"HTTP/1.1 200 OK\r\n", "HTTP/1.0 100 \r\n", "HTTP/1.1 200 " + strings.Repeat("x", 287) + "\r\n"} {
			checkHead(t, line+c.s, api.RsHead{}, 0, c.e)
		}
		// The status line comes first.
		checkHead(t, "HTTP/1.1 200\r\n"+c.s, api.RsHead{}, 0, api.ErrForm)
	}
	for _, l := range [][]api.HdField{nil, long(8192), fields("A", strings.Repeat("v", 2000)), fields("connection", "close", "Connection", "", "a", "\"")} {
		h := api.RsHead{Minor: 1, Status: 200, Reason: strings.Repeat("x", 287), Fields: l}
		checkHead(t, text(h)+"x", h, len(text(h)), api.OK)
	}
	// Lines that are as long as allowed without a space behind each colon are read, though headers.Check counts one.
	packed := strings.Repeat("A:"+strings.Repeat("v", 1634)+"\r\n", 5) + "\r\n"
	h := api.RsHead{Minor: 1, Status: 200}
	for range 5 {
		h.Fields = append(h.Fields, field("A", strings.Repeat("v", 1634)))
	}
	checkHead(t, "HTTP/1.1 200 \r\n"+packed, h, 15+len(packed), api.OK)
}

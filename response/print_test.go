package response_test

import (
	"fmt"
	"math"
	"slices"
	"strings"
	"testing"

	"spillway/api"
	"spillway/response"
)

// checkPrint fails if Print does not return these results.
func checkPrint(t *testing.T, h api.RsHead, body string, kind int, want string, e api.Errno) {
	t.Helper()
	b, got := response.Print(h, []byte(body), kind)
	if string(b) != want || got != e {
		t.Errorf("Print(%s, %s, %d): %s, %d, want %s, %d", short(h), short(body), kind, short(string(b)), got, short(want), e)
	}
}

// comparePrint fails if Print does not return what the model does.
func comparePrint(t *testing.T, h api.RsHead, body string, kind int) {
	t.Helper()
	want, e := printed(h, body, kind)
	checkPrint(t, h, body, kind, want, e)
}

// kinds is the kinds of framings.
var kinds = []int{api.RsNone, api.RsLength, api.RsChunked, api.RsClose}

func TestPrintOfExamples(t *testing.T) { // P9.5
	h := final(200, "A", "1", "connection", "")
	first := "HTTP/1.1 200 OK\r\nA: 1\r\nconnection: \r\n"
	checkPrint(t, h, "", api.RsNone, first+"\r\n", api.OK)
	checkPrint(t, h, "ab", api.RsLength, first+"Content-Length: 2\r\n\r\nab", api.OK)
	checkPrint(t, h, "", api.RsLength, first+"Content-Length: 0\r\n\r\n", api.OK)
	checkPrint(t, h, "0123456789\r\n\x00\xff?!", api.RsChunked, first+"Transfer-Encoding: chunked\r\n\r\n10\r\n0123456789\r\n\x00\xff?!\r\n0\r\n\r\n", api.OK)
	checkPrint(t, h, "", api.RsChunked, first+"Transfer-Encoding: chunked\r\n\r\n0\r\n\r\n", api.OK)
	checkPrint(t, h, "ab", api.RsClose, first+"\r\nab", api.OK)
	checkPrint(t, h, "", api.RsClose, first+"\r\n", api.OK)
	checkPrint(t, api.RsHead{Status: 100}, "", api.RsNone, "HTTP/1.0 100 \r\n\r\n", api.OK)
	checkPrint(t, api.RsHead{Status: 599, Reason: " \tno reason~ "}, "x", api.RsClose, "HTTP/1.0 599  \tno reason~ \r\n\r\nx", api.OK)
	checkPrint(t, api.RsHead{Minor: 1, Status: 204, Reason: "x"}, "y", api.RsLength, "HTTP/1.1 204 x\r\nContent-Length: 1\r\n\r\ny", api.OK)
}

func TestPrintOfEachStatus(t *testing.T) { // P9.5
	for _, status := range []int{math.MinInt, -200, -1, 0, 1, 99, 600, 1000, math.MaxInt} {
		for _, kind := range kinds {
			checkPrint(t, api.RsHead{Minor: 1, Status: status}, "", kind, "", api.ErrForm)
		}
	}
	for status := 100; status <= 599; status++ {
		checkPrint(t, api.RsHead{Minor: 1, Status: status}, "", api.RsClose, fmt.Sprintf("HTTP/1.1 %d \r\n\r\n", status), api.OK)
	}
	for _, minor := range []int{math.MinInt, -1, 2, 10, math.MaxInt} {
		for _, kind := range kinds {
			checkPrint(t, api.RsHead{Minor: minor, Status: 200}, "", kind, "", api.ErrForm)
		}
	}
}

func TestPrintOfEachReason(t *testing.T) { // P9.5
	for c := range 256 {
		for _, reason := range []string{string([]byte{byte(c)}), "a" + string([]byte{byte(c)}), string([]byte{byte(c), 'a'})} {
			for _, kind := range kinds {
				comparePrint(t, api.RsHead{Minor: 1, Status: 200, Reason: reason}, "", kind)
			}
		}
	}
	most := strings.Repeat("x", 287)
	for _, kind := range kinds {
		for n := 284; n < 292; n++ {
			comparePrint(t, api.RsHead{Minor: 1, Status: 200, Reason: strings.Repeat(" ", n)}, "", kind)
		}
		checkPrint(t, api.RsHead{Minor: 1, Status: 200, Reason: most + "x"}, "", kind, "", api.ErrLong)
		checkPrint(t, api.RsHead{Minor: 1, Status: 200, Reason: most + "x\n"}, "", kind, "", api.ErrForm)
	}
	checkPrint(t, api.RsHead{Minor: 1, Status: 200, Reason: most}, "", api.RsNone, "HTTP/1.1 200 "+most+"\r\n\r\n", api.OK)
}

func TestPrintOfFields(t *testing.T) { // P9.5
	for _, name := range []string{"content-length", "Content-Length", "CONTENT-LENGTH", "transfer-encoding", "Transfer-Encoding", "transfer-ENCODING"} {
		for _, kind := range append(kinds, 4, -1) {
			checkPrint(t, final(200, name, "1"), "", kind, "", api.ErrForm)
			checkPrint(t, final(200, "a", "b", name, ""), "", kind, "", api.ErrForm)
			checkPrint(t, final(200, name, "chunked", "a", "b"), all65536+"x", kind, "", api.ErrForm)
		}
		for _, other := range []string{name + "s", name[1:], "x-" + name, strings.Replace(name, "-", "_", 1)} {
			checkPrint(t, final(200, other, "1"), "", api.RsClose, text(final(200, other, "1")), api.OK)
		}
	}
	lists := [][]api.HdField{long(8192), long(8191), long(8174), long(8173), long(8172), long(8171), long(8164), long(8163), long(8162), slices.Repeat(fields("a", "b"), 100), slices.Repeat(fields("a", "b"), 99), fields("a", strings.Repeat("v", 2000))}
	lists = append(lists, long(8193), slices.Repeat(fields("a", "b"), 101), fields("a", strings.Repeat("v", 2001)), fields("a b", "c"), fields("a", "b "), fields("a", "\r\n"), fields("", ""), append(fields("a b", "c"), field("a", strings.Repeat("v", 2001))))
	for _, l := range lists {
		for _, kind := range append(kinds, 4) {
			for _, body := range []string{"", "x", "0123456789"} {
				comparePrint(t, api.RsHead{Minor: 1, Status: 200, Fields: l}, body, kind)
				comparePrint(t, api.RsHead{Minor: 0, Status: 200, Reason: "\n", Fields: l}, body, kind)
			}
		}
	}
	// Lines with the field that is added may have 8192 bytes, but not one more.
	for _, c := range []struct {
		n, kind int
		body    string
		e       api.Errno
	}{
		{8192, api.RsNone, "", api.OK}, {8192, api.RsClose, "x", api.OK},
		{8173, api.RsLength, "x", api.OK}, {8174, api.RsLength, "x", api.ErrLong}, {8172, api.RsLength, "0123456789", api.OK}, {8173, api.RsLength, "0123456789", api.ErrLong},
		{8164, api.RsChunked, "x", api.OK}, {8165, api.RsChunked, "x", api.ErrLong},
	} {
		b, e := response.Print(api.RsHead{Minor: 1, Status: 200, Fields: long(c.n)}, []byte(c.body), c.kind)
		if e != c.e || e == api.OK && len(b) < 8192+15 || e != api.OK && len(b) > 0 {
			t.Errorf("Print of fields of %d bytes, %d: %d bytes, %d, want %d", c.n, c.kind, len(b), e, c.e)
		}
	}
	for _, kind := range kinds {
		e := api.OK
		if kind == api.RsLength || kind == api.RsChunked {
			e = api.ErrLong
		}
		if _, got := response.Print(api.RsHead{Minor: 1, Status: 200, Fields: slices.Repeat(fields("a", "b"), 100)}, nil, kind); got != e {
			t.Errorf("Print of 100 fields, %d: %d, want %d", kind, got, e)
		}
	}
}

func TestPrintOfKinds(t *testing.T) { // P9.5
	for _, kind := range []int{-1, 4, 5, math.MaxInt, math.MinInt} {
		for _, body := range []string{"", "x", all65536 + "x"} {
			checkPrint(t, final(200), body, kind, "", api.ErrArg)
		}
	}
	for _, body := range []string{"x", "\x00", all65536, all65536 + "x"} {
		checkPrint(t, final(204), body, api.RsNone, "", api.ErrArg)
	}
	for _, body := range []string{"", "x", all65536 + "x"} {
		checkPrint(t, api.RsHead{Status: 200}, body, api.RsChunked, "", api.ErrArg)
		checkPrint(t, api.RsHead{Status: 200, Reason: strings.Repeat("x", 288)}, body, api.RsChunked, "", api.ErrArg)
		checkPrint(t, api.RsHead{Status: 200, Fields: long(8192)}, body, api.RsChunked, "", api.ErrArg)
	}
	h := api.RsHead{Status: 200}
	checkPrint(t, h, "x", api.RsLength, "HTTP/1.0 200 \r\nContent-Length: 1\r\n\r\nx", api.OK)
}

func TestPrintOfMuch(t *testing.T) { // P9.5
	for _, minor := range []int{0, 1} {
		for _, n := range []int{65535, 65536, 65537, 70000} {
			body := strings.Repeat("y", n)
			for _, kind := range kinds {
				comparePrint(t, api.RsHead{Minor: minor, Status: 200}, body, kind)
			}
		}
	}
	checkPrint(t, final(200), all65536, api.RsClose, text(final(200))+all65536, api.OK)
	checkPrint(t, final(200), all65536, api.RsLength, text(final(200, "Content-Length", "65536"))+all65536, api.OK)
	checkPrint(t, final(200), all65536, api.RsChunked, text(final(200, "Transfer-Encoding", "chunked"))+chunk(all65536)+"0\r\n\r\n", api.OK)
	for _, kind := range kinds[1:] {
		checkPrint(t, final(200), all65536+"x", kind, "", api.ErrLong)
	}
}

func TestPrintOfManyParts(t *testing.T) { // P9.5
	for _, minor := range []int{-1, 0, 1, 2} {
		for _, status := range []int{99, 100, 200, 204, 599, 600} {
			for _, reason := range []string{"", "x", "\r", strings.Repeat("x", 288)} {
				for _, l := range [][]api.HdField{nil, fields("a", "b"), fields("a ", "b"), fields("Content-Length", "1"), long(8192), long(8193), slices.Repeat(fields("a", ""), 100)} {
					for _, body := range []string{"", "ab", all65536 + "x"} {
						for kind := -1; kind <= 4; kind++ {
							comparePrint(t, api.RsHead{Minor: minor, Status: status, Reason: reason, Fields: l}, body, kind)
						}
					}
				}
			}
		}
	}
}

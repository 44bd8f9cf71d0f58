package response_test

import (
	"fmt"
	"math"
	"slices"
	"strings"
	"testing"

	"spillway/api"
	"spillway/response"
)

// checkFraming fails if Framing does not return these results.
func checkFraming(t *testing.T, method string, h api.RsHead, kind, length int, e api.Errno) {
	t.Helper()
	k, n, got := response.Framing(method, h)
	if k != kind || n != length || got != e {
		t.Errorf("Framing(%s, %s): %d, %d, %d, want %d, %d, %d", short(method), short(h), k, n, got, kind, length, e)
	}
}

// compareFraming fails if Framing does not return what the model does.
func compareFraming(t *testing.T, method string, h api.RsHead) {
	t.Helper()
	kind, length, e := framing(method, h)
	checkFraming(t, method, h, kind, length, e)
}

// notTokens is strings that are no methods.
var notTokens = []string{"", " ", "A B", "GET ", " GET", "GET\n", "\x00", "G\xc9T", "a/b", "\"GET\"", "a:", strings.Repeat("x", 65)}

func TestFramingOfErrors(t *testing.T) { // P9.2
	wrong := []api.RsHead{
		{Minor: 2, Status: 200}, {Minor: -1, Status: 200}, {Minor: math.MaxInt, Status: 200}, {Minor: math.MinInt, Status: 200},
		{Minor: 1}, {Minor: 1, Status: 99}, {Minor: 1, Status: 600}, {Minor: 1, Status: -200}, {Minor: 1, Status: math.MaxInt}, {Minor: 1, Status: math.MinInt},
	}
	lists := []struct {
		l []api.HdField
		e api.Errno
	}{
		{fields("a b", "c"), api.ErrForm},
		{fields("a", "b "), api.ErrForm},
		{fields("a", strings.Repeat("v", 2001)), api.ErrLong},
		{slices.Repeat(fields("a", "b"), 101), api.ErrLong},
		{long(8193), api.ErrLong},
		{append(long(8192), field("content-length", "x")), api.ErrLong},
		{append(fields("content-length", "x"), field("a", strings.Repeat("v", 2001))), api.ErrLong},
		{append(fields("content-length", "65537"), field("a b", "c")), api.ErrForm},
	}
	for _, method := range []string{"GET", "HEAD"} {
		for _, h := range wrong {
			checkFraming(t, method, h, 0, 0, api.ErrForm)
			for _, c := range lists {
				h.Fields = c.l
				checkFraming(t, method, h, 0, 0, api.ErrForm)
			}
		}
		for _, c := range lists {
			for _, status := range []int{100, 200, 204, 599} {
				checkFraming(t, method, api.RsHead{Minor: 1, Status: status, Fields: c.l}, 0, 0, c.e)
			}
		}
	}
	for _, method := range notTokens {
		checkFraming(t, method, final(200), 0, 0, api.ErrArg)
		for _, h := range wrong {
			checkFraming(t, method, h, 0, 0, api.ErrArg)
		}
		for _, c := range lists {
			checkFraming(t, method, api.RsHead{Status: 200, Fields: c.l}, 0, 0, api.ErrArg)
		}
	}
}

func TestFramingOfEachStatus(t *testing.T) { // P9.2
	for _, method := range []string{"GET", "HEAD", "head", "Head", "HEADS", "POST", "OPTIONS", "CONNECT", strings.Repeat("x", 64)} {
		for status := 100; status <= 599; status++ {
			none := method == "HEAD" || status < 200 || status == 204 || status == 304
			for _, h := range []api.RsHead{final(status, "Content-Length", "7"), final(status, "Content-Length", "x"), final(status, "Transfer-Encoding", "gzip"), final(status), {Status: status}} {
				if none {
					checkFraming(t, method, h, api.RsNone, 0, api.OK)
				} else {
					compareFraming(t, method, h)
				}
			}
			if !none {
				checkFraming(t, method, final(status, "Content-Length", "7"), api.RsLength, 7, api.OK)
				checkFraming(t, method, final(status, "Transfer-Encoding", "chunked"), api.RsChunked, 0, api.OK)
				checkFraming(t, method, final(status), api.RsClose, 0, api.OK)
			}
		}
	}
}

func TestFramingOfCodings(t *testing.T) { // P9.2
	for _, all := range [][]string{
		{"transfer-encoding", "chunked"}, {"Transfer-Encoding", "CHUNKED"}, {"TRANSFER-ENCODING", "Chunked"},
		{"Transfer-Encoding", ", chunked ,,"}, {"Transfer-Encoding", "", "a", "b", "transfer-encoding", "chunked"}, {"Transfer-Encoding", "chunked", "Transfer-Encoding", ", ,"},
		{"Transfer-Encoding", "chunked", "Content-Lengths", "1"}, {"Transfer-Encoding", "chunked", "X-Content-Length", "1"},
	} {
		h := final(200, all...)
		checkFraming(t, "GET", h, api.RsChunked, 0, api.OK)
		h.Minor = 0
		checkFraming(t, "GET", h, 0, 0, api.ErrForm)
		h.Minor, h.Fields = 1, append(h.Fields, field("CONTENT-length", "1"))
		checkFraming(t, "GET", h, 0, 0, api.ErrForm)
	}
	for _, all := range [][]string{
		{"Transfer-Encoding", ""}, {"Transfer-Encoding", ","}, {"Transfer-Encoding", "gzip"}, {"Transfer-Encoding", "gzip, chunked"}, {"Transfer-Encoding", "chunked, gzip"}, {"Transfer-Encoding", "chunked, chunked"},
		{"Transfer-Encoding", "gzip", "Transfer-Encoding", "chunked"}, {"Transfer-Encoding", "chunked", "transfer-encoding", "Chunked"}, {"Transfer-Encoding", "chunked", "transfer-encoding", "identity"},
		{"Transfer-Encoding", "chunke"}, {"Transfer-Encoding", "chunkeds"}, {"Transfer-Encoding", "chunked;q=1"}, {"Transfer-Encoding", "chunked;"}, {"Transfer-Encoding", "\"chunked\""}, {"Transfer-Encoding", "chun ked"},
		{"Transfer-Encoding", "\""}, {"Transfer-Encoding", "chunked, \""}, {"Transfer-Encoding", "\"", "Transfer-Encoding", "chunked"}, {"Transfer-Encoding", "chunked", "Transfer-Encoding", "\""}, {"Transfer-Encoding", "\"", "Transfer-Encoding", "\", chunked"},
		{"Transfer-Encoding", "chunked", "Content-Length", "1"}, {"Content-Length", "", "Transfer-Encoding", "chunked"}, {"Content-Length", "70000", "Transfer-Encoding", "chunked"}, {"Content-Length", "1", "Transfer-Encoding", "identity"},
	} {
		checkFraming(t, "GET", final(200, all...), 0, 0, api.ErrForm)
		checkFraming(t, "HEAD", final(200, all...), api.RsNone, 0, api.OK)
	}
}

func TestFramingOfLengths(t *testing.T) { // P9.2
	for _, c := range []struct {
		n   int
		all []string
	}{
		{0, []string{"Content-Length", "0"}},
		{2, []string{"content-length", "2"}},
		{2, []string{"CONTENT-LENGTH", "2, 2"}},
		{2, []string{"Content-Length", "2", "Content-Length", "02"}},
		{2, []string{"Content-Length", ",2,,", "a", "3", "content-LENGTH", "2,02 ,\t0000000002"}},
		{2, []string{"Content-Length", "", "Content-Length", "2"}},
		{0, []string{"Content-Length", "0000000000,0"}},
		{65536, []string{"Content-Length", "65536"}},
		{65535, []string{"Content-Length", "0000065535"}},
		{10, []string{"Content-Length", "10", "Transfer-Encodings", "gzip"}},
	} {
		for _, minor := range []int{0, 1} {
			checkFraming(t, "GET", api.RsHead{Minor: minor, Status: 200, Fields: fields(c.all...)}, api.RsLength, c.n, api.OK)
		}
	}
	for _, s := range []string{"", ",", " ", "2, 3", "0, 1", "2, 2, 3", "3, 2, 2", "x", "2x", "-2", "+2", "2.0", "0x2", "2 2", "2;2", "2, x", "x, 2", "\"2\"", "2, \"", "\"", "2e1", "00000000002", "65536, 65537", "65537, 65536", "9999999999, 99999999999", "4294967298, 2", "70000, x", "70000, 80000", "18446744073709551618"} {
		checkFraming(t, "GET", final(200, "Content-Length", strings.Trim(s, " ")), 0, 0, api.ErrForm)
		checkFraming(t, "GET", final(304, "Content-Length", strings.Trim(s, " ")), api.RsNone, 0, api.OK)
	}
	checkFraming(t, "GET", final(200, "Content-Length", "2", "Content-Length", "3"), 0, 0, api.ErrForm)
	checkFraming(t, "GET", final(200, "Content-Length", "2", "Content-Length", "x"), 0, 0, api.ErrForm)
	checkFraming(t, "GET", final(200, "Content-Length", "\"2", "Content-Length", "2\""), 0, 0, api.ErrForm)
	for _, s := range []string{"65537", "0000065537", "99999", "4294967296", "4294967298", "8589934592", "9999999999", "65537, 065537", "70000,,70000"} {
		checkFraming(t, "GET", final(200, "Content-Length", s), 0, 0, api.ErrLong)
		checkFraming(t, "HEAD", final(200, "Content-Length", s), api.RsNone, 0, api.OK)
	}
}

func TestFramingOfTheReason(t *testing.T) { // P9.2
	for _, reason := range []string{"", "x", "\r\n", "\x00", strings.Repeat("x", 1000)} {
		h := final(200, "Content-Length", "3")
		h.Reason = reason
		checkFraming(t, "GET", h, api.RsLength, 3, api.OK)
	}
}

func TestFramingOfManyFields(t *testing.T) { // P9.2
	var all []api.HdField
	for _, name := range []string{"Content-Length", "transfer-encoding", "x"} {
		for _, value := range []string{"", "1", "01", "2", "chunked", "gzip", "1,1", "\"", "99999"} {
			all = append(all, field(name, value))
		}
	}
	lists := [][]api.HdField{nil}
	for _, a := range all {
		lists = append(lists, []api.HdField{a})
		for _, b := range all {
			lists = append(lists, []api.HdField{a, b}, []api.HdField{a, field("x", ""), b})
		}
	}
	for _, l := range lists {
		for _, method := range []string{"GET", "HEAD", "head"} {
			for _, status := range []int{199, 200, 204, 404} {
				for minor := range 2 {
					compareFraming(t, method, api.RsHead{Minor: minor, Status: status, Fields: l})
				}
			}
		}
	}
}

func TestFramingOfManyValues(t *testing.T) { // P9.2
	each([]string{"0", "1", ",", " ", "\"", "a"}, 5, func(s string) {
		s = strings.Trim(s, " ")
		compareFraming(t, "GET", final(200, "Content-Length", s))
		compareFraming(t, "GET", final(200, "Content-Length", s, "content-length", "1"))
	})
	each([]string{"chunked", "CHUNKED", ",", " ", "\"", "\t", "a"}, 5, func(s string) {
		s = strings.Trim(s, " \t")
		compareFraming(t, "GET", final(200, "Transfer-Encoding", s))
		compareFraming(t, "GET", final(200, "Transfer-Encoding", "", "transfer-encoding", s))
	})
	for n := range 70000 {
		if n < 300 || n > 65500 && n < 65600 || n%997 == 0 {
			compareFraming(t, "GET", final(200, "Content-Length", fmt.Sprint(n)))
			compareFraming(t, "GET", final(200, "Content-Length", fmt.Sprintf("%010d", n)))
			compareFraming(t, "GET", final(200, "Content-Length", fmt.Sprintf("%011d", n)))
		}
	}
}

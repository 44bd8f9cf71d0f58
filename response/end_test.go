package response_test

import (
	"strings"
	"testing"

	"spillway/api"
)

// compareEnd fails if End, and Response before and after it, do not return what the model does.
func compareEnd(t *testing.T, x api.RsState) {
	t.Helper()
	want, e := end(x)
	checkEnd(t, x, want, e)
	for _, y := range []api.RsState{x, want} {
		r, e := responseOf(y)
		checkResponse(t, y, r, e)
	}
}

func TestEndOfExamples(t *testing.T) { // P9.4
	h := api.RsHead{Status: 200, Reason: "OK"}
	x := api.RsState{Method: "GET", Phase: api.RsBody, Head: h, Framing: api.RsClose, Body: "ab"}
	y := api.RsState{Method: "GET", Phase: api.RsWhole, Head: h, Framing: api.RsClose, Body: "ab"}
	checkResponse(t, x, api.RsResponse{}, api.ErrDown)
	checkEnd(t, x, y, api.OK)
	checkEnd(t, y, y, api.OK)
	checkResponse(t, y, api.RsResponse{Head: h, Framing: api.RsClose, Body: "ab"}, api.OK)
}

func TestEndOfEachPlace(t *testing.T) { // P9.4
	for _, x := range places() {
		compareEnd(t, x)
		x.Infos = 10
		compareEnd(t, x)
	}
	for _, s := range []string{"", "H", "HTTP/1.1 200 OK\r\n", info, text(final(200, "Content-Length", "2")), text(final(200, "Content-Length", "2")) + "a", text(final(200, "Transfer-Encoding", "chunked")), text(final(200, "Transfer-Encoding", "chunked")) + "1\r\na\r\n0\r\n\r"} {
		x, _, _ := read("GET", s)
		checkEnd(t, x, x, api.ErrMore)
		checkResponse(t, x, api.RsResponse{}, api.ErrDown)
	}
}

func TestEndOfWholeResponses(t *testing.T) { // P9.4
	all, texts := wholes()
	bodies := []string{"a\r\n", "", "ab", "", "", "", "", ""}
	for i, x := range all {
		checkEnd(t, x, x, api.OK)
		want := api.RsResponse{Head: x.Head, Framing: x.Framing, Body: bodies[i], Keep: true}
		if i == 2 {
			want.Trailers = fields("x", "y")
		}
		checkResponse(t, x, want, api.OK)
		for n := range len(texts[i]) {
			y, _, _ := read(x.Method, texts[i][:n])
			checkEnd(t, y, y, api.ErrMore)
			checkResponse(t, y, api.RsResponse{}, api.ErrDown)
		}
	}
	for _, n := range []int{0, 1, 65536} {
		s := text(final(200)) + all65536[:n]
		x, _, _ := read("GET", s)
		y := x
		y.Phase = api.RsWhole
		checkResponse(t, x, api.RsResponse{}, api.ErrDown)
		checkEnd(t, x, y, api.OK)
		checkResponse(t, y, api.RsResponse{Head: final(200), Framing: api.RsClose, Body: all65536[:n]}, api.OK)
	}
}

// checkKept fails if a connection is not, or is, kept after a response with these fields connection.
func checkKept(t *testing.T, minor int, want bool, values ...string) {
	t.Helper()
	for _, framing := range [][]api.HdField{fields("Content-Length", "0"), fields("Transfer-Encoding", "chunked"), nil} {
		h := api.RsHead{Minor: minor, Status: 200, Fields: framing}
		for i, v := range values {
			h.Fields = append(h.Fields, field([]string{"connection", "Connection", "CONNECTION"}[i%3], v))
		}
		for _, method := range []string{"GET", "HEAD"} {
			x, _, e := read(method, text(h)+"0\r\n\r\n")
			if e != api.OK {
				continue
			}
			x.Phase = api.RsWhole
			r := api.RsResponse{Head: h, Framing: x.Framing, Body: x.Body, Keep: want && x.Framing != api.RsClose}
			checkResponse(t, x, r, api.OK)
		}
	}
}

func TestConnectionsThatAreKept(t *testing.T) { // P9.4
	checkKept(t, 1, true)
	checkKept(t, 0, false)
	for _, values := range [][]string{{"keep-alive"}, {"Keep-Alive"}, {"x, KEEP-ALIVE"}, {"x", "keep-alive"}, {"", ",keep-alive,"}, {"\"close\", keep-alive"}, {"\"a,close\"", "keep-alive", "closed"}} {
		checkKept(t, 1, true, values...)
		checkKept(t, 0, true, values...)
	}
	for _, values := range [][]string{{""}, {","}, {"x"}, {"closed"}, {"close d"}, {"\"close\""}, {"close;q=1"}, {"keep-alives"}, {"keep alive"}, {"\"keep-alive\""}, {"keep-alive=1"}, {"\"x, close\""}, {"keep", "alive"}} {
		checkKept(t, 1, true, values...)
		checkKept(t, 0, false, values...)
	}
	for _, values := range [][]string{{"close"}, {"Close"}, {"x, CLOSE"}, {"close, keep-alive"}, {"keep-alive, close"}, {"keep-alive", "close"}, {"close", "keep-alive"}, {"\"a\", close"}, {"\""}, {"keep-alive, \""}, {"keep-alive", "\"x"}, {"\"", "keep-alive"}, {"\"", "\""}, {"\"\\\""}, {"x", "y", "z", "close"}} {
		checkKept(t, 1, false, values...)
		checkKept(t, 0, false, values...)
	}
	// Fields with other names say nothing about it.
	for _, name := range []string{"Proxy-Connection", "Connections", "Keep-Alive", "X-Connection"} {
		h := final(204, name, "close")
		checkResponse(t, api.RsState{Method: "GET", Phase: api.RsWhole, Head: h}, api.RsResponse{Head: h, Keep: true}, api.OK)
	}
}

func TestConnectionsOfManyValues(t *testing.T) { // P9.4
	each([]string{"close", "Keep-Alive", ",", " ", "\"", "\\", "x"}, 5, func(s string) {
		s = strings.Trim(s, " ")
		for minor := range 2 {
			h := api.RsHead{Minor: minor, Status: 204, Fields: fields("Connection", s)}
			x := api.RsState{Method: "GET", Phase: api.RsWhole, Head: h}
			checkResponse(t, x, api.RsResponse{Head: h, Keep: kept(h, api.RsNone)}, api.OK)
		}
	})
}

func TestEndOfManyBytes(t *testing.T) { // P9.4
	next := numbers(7)
	for range 10000 {
		x, _, e := read([]string{"GET", "HEAD"}[next(2)], anyBytes(next))
		if e == api.OK {
			compareEnd(t, x)
		}
	}
}

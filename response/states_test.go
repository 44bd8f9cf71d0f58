package response_test

import (
	"math"
	"slices"
	"strings"
	"testing"

	"spillway/api"
	"spillway/response"
)

// checkEnd fails if End does not return these results.
func checkEnd(t *testing.T, x, want api.RsState, e api.Errno) {
	t.Helper()
	y, got := response.End(x)
	if !same(y, want) || got != e {
		t.Errorf("End(%s): %s, %d, want %s, %d", short(x), short(y), got, short(want), e)
	}
}

// checkResponse fails if Response does not return these results.
func checkResponse(t *testing.T, x api.RsState, want api.RsResponse, e api.Errno) {
	t.Helper()
	r, got := response.Response(x)
	if !sameResponse(r, want) || got != e {
		t.Errorf("Response(%s): %s, %d, want %s, %d", short(x), short(r), got, short(want), e)
	}
}

// checkReached fails if Feed, End and Response do not agree that reading can lead to a state, or that it cannot.
func checkReached(t *testing.T, x api.RsState, want bool) {
	t.Helper()
	if !want {
		for _, b := range []string{"", "x", "\n", info, "HTTP/1.1 200 \r\n\r\n"} {
			checkFeed(t, x, b, x, 0, api.ErrArg)
		}
		checkEnd(t, x, x, api.ErrArg)
		checkResponse(t, x, api.RsResponse{}, api.ErrArg)
		return
	}
	checkFeed(t, x, "", x, 0, api.OK)
	if y, e := response.End(x); e == api.ErrArg {
		t.Errorf("End(%s): %s, %d", short(x), short(y), e)
	}
	if r, e := response.Response(x); e == api.ErrArg {
		t.Errorf("Response(%s): %s, %d", short(x), short(r), e)
	}
}

// compareReached does the same by what the model says.
func compareReached(t *testing.T, x api.RsState) {
	t.Helper()
	checkReached(t, x, reached(x))
}

func TestStatesThatAreReached(t *testing.T) { // P9.3, P9.4
	counted, coded, closed := final(200, "Content-Length", "4"), final(200, "Transfer-Encoding", "chunked"), final(200)
	most := strings.Repeat("x", 287)
	for _, x := range []api.RsState{
		{},
		{Infos: 10, Line: info[:16]},
		{Line: strings.Repeat("\x00", 301)},
		{Line: "HTTP/1.1 200 " + most + "\r\n" + strings.Repeat("y", 8192)},
		{Line: "HTTP/1.1 101 \r\n\r"},
		{Line: "HTTP/1.1 200 \r\nContent-Length: x\r\n"},
		{Head: api.RsHead{Fields: []api.HdField{}}, Chunks: api.ChState{Trailers: []api.HdField{}}},
		{Phase: api.RsBody, Head: counted, Framing: api.RsLength, Left: 4},
		{Phase: api.RsBody, Head: counted, Framing: api.RsLength, Body: "abc", Left: 1, Infos: 10},
		{Phase: api.RsWhole, Head: counted, Framing: api.RsLength, Body: "abcd"},
		{Phase: api.RsWhole, Head: final(200, "Content-Length", "0"), Framing: api.RsLength},
		{Phase: api.RsWhole, Head: final(204, "Content-Length", "4")},
		{Phase: api.RsWhole, Head: final(304, "Transfer-Encoding", "x")},
		{Phase: api.RsBody, Head: coded, Framing: api.RsChunked},
		{Phase: api.RsBody, Head: coded, Framing: api.RsChunked, Chunks: api.ChState{Phase: api.ChTrailer, Data: all65536, Line: "a"}},
		{Phase: api.RsWhole, Head: coded, Framing: api.RsChunked, Chunks: api.ChState{Phase: api.ChDone, Data: all65536, Trailers: fields("a", "b")}},
		{Phase: api.RsBody, Head: closed, Framing: api.RsClose},
		{Phase: api.RsBody, Head: closed, Framing: api.RsClose, Body: all65536},
		{Phase: api.RsWhole, Head: closed, Framing: api.RsClose, Body: all65536},
		{Phase: api.RsWhole, Head: closed, Framing: api.RsClose, Infos: 5},
		{Phase: api.RsBody, Head: api.RsHead{Status: 599, Reason: most, Fields: long(8192)}, Framing: api.RsClose},
		{Phase: api.RsBody, Head: api.RsHead{Status: 200, Reason: " \t~", Fields: slices.Repeat(fields("a", "b"), 100)}, Framing: api.RsClose},
	} {
		x.Method = "GET"
		checkReached(t, x, true)
		compareReached(t, x)
	}
	for _, h := range []api.RsHead{counted, coded, closed, final(200, "Content-Length", "x"), final(204)} {
		checkReached(t, api.RsState{Method: "HEAD", Phase: api.RsWhole, Head: h}, true)
		checkReached(t, api.RsState{Method: "HEAD", Phase: api.RsBody, Head: h}, false)
	}
}

func TestMethodsOfStates(t *testing.T) { // P9.3, P9.4
	for _, method := range notTokens {
		checkReached(t, api.RsState{Method: method}, false)
		checkReached(t, api.RsState{Method: method, Phase: api.RsBody, Head: final(200), Framing: api.RsClose}, false)
		checkReached(t, api.RsState{Method: method, Phase: api.RsWhole, Head: final(204)}, false)
	}
	for _, method := range []string{"x", "HEAD", strings.Repeat("x", 64)} {
		checkReached(t, api.RsState{Method: method}, true)
	}
	checkReached(t, api.RsState{}, false)
}

func TestStatesThatAreNotReached(t *testing.T) { // P9.3, P9.4
	counted, coded, closed := final(200, "Content-Length", "4"), final(200, "Transfer-Encoding", "chunked"), final(200)
	for _, x := range []api.RsState{
		{Phase: -1}, {Phase: 3}, {Phase: math.MaxInt}, {Phase: math.MinInt},
		{Infos: -1}, {Infos: 11}, {Infos: math.MaxInt}, {Infos: math.MinInt},
		{Line: "\n"}, {Line: "x\r\n"}, {Line: info}, {Line: plain}, {Line: plain + "x"}, {Line: strings.Repeat("x", 302)}, {Line: "HTTP/1.1 200 \r\na b\r\n"},
		{Line: "HTTP/1.1 200 \r\n" + strings.Repeat("x", 8193)},
		{Head: api.RsHead{Minor: 1}}, {Head: api.RsHead{Status: 200}}, {Head: api.RsHead{Reason: "x"}}, {Head: api.RsHead{Fields: fields("a", "b")}}, {Head: closed},
		{Framing: 1}, {Framing: api.RsClose}, {Framing: -1}, {Body: "x"}, {Left: 1}, {Left: -1},
		{Chunks: api.ChState{Phase: 1}}, {Chunks: api.ChState{Line: "1"}}, {Chunks: api.ChState{Data: "x"}}, {Chunks: api.ChState{Left: 1}}, {Chunks: api.ChState{Trailers: fields("a", "b")}}, {Chunks: api.ChState{Phase: api.ChDone}},
		{Phase: api.RsBody}, {Phase: api.RsWhole},
		{Phase: api.RsBody, Head: counted, Framing: api.RsLength},
		{Phase: api.RsBody, Head: counted, Framing: api.RsLength, Body: "abcd"},
		{Phase: api.RsBody, Head: counted, Framing: api.RsLength, Body: "abcde", Left: -1},
		{Phase: api.RsBody, Head: counted, Framing: api.RsLength, Left: 5},
		{Phase: api.RsBody, Head: counted, Framing: api.RsLength, Left: math.MaxInt, Body: "abcde"},
		{Phase: api.RsBody, Head: counted, Framing: api.RsLength, Left: math.MinInt},
		{Phase: api.RsBody, Head: counted, Framing: api.RsLength, Left: 4, Line: "x"},
		{Phase: api.RsBody, Head: counted, Framing: api.RsLength, Left: 4, Chunks: api.ChState{Line: "1"}},
		{Phase: api.RsBody, Head: counted, Framing: api.RsClose}, {Phase: api.RsBody, Head: counted, Framing: api.RsChunked}, {Phase: api.RsBody, Head: counted, Framing: api.RsNone},
		{Phase: api.RsWhole, Head: counted, Framing: api.RsLength}, {Phase: api.RsWhole, Head: counted, Framing: api.RsLength, Body: "abc"}, {Phase: api.RsWhole, Head: counted, Framing: api.RsLength, Body: "abcde"},
		{Phase: api.RsWhole, Head: counted, Framing: api.RsLength, Left: 4}, {Phase: api.RsWhole, Head: counted, Framing: api.RsLength, Body: "abc", Left: 1},
		{Phase: api.RsWhole, Head: counted, Framing: api.RsLength, Body: "abcde", Left: -1},
		{Phase: api.RsWhole, Head: counted, Framing: api.RsLength, Body: "abcd", Chunks: api.ChState{Phase: api.ChDone}},
		{Phase: api.RsBody, Head: final(200, "Content-Length", "0"), Framing: api.RsLength},
		{Phase: api.RsBody, Head: final(204)}, {Phase: api.RsBody, Head: final(304)},
		{Phase: api.RsWhole, Head: final(204), Body: "x"}, {Phase: api.RsWhole, Head: final(204), Left: 1}, {Phase: api.RsWhole, Head: final(204), Chunks: api.ChState{Line: "1"}}, {Phase: api.RsWhole, Head: final(204), Framing: api.RsClose},
		{Phase: api.RsWhole, Head: final(100)}, {Phase: api.RsWhole, Head: final(101)}, {Phase: api.RsWhole, Head: final(199)}, {Phase: api.RsBody, Head: final(100), Framing: api.RsClose},
		{Phase: api.RsBody, Head: coded, Framing: api.RsChunked, Body: "x"}, {Phase: api.RsBody, Head: coded, Framing: api.RsChunked, Left: 1}, {Phase: api.RsBody, Head: coded, Framing: api.RsChunked, Line: "1"},
		{Phase: api.RsBody, Head: coded, Framing: api.RsChunked, Chunks: api.ChState{Phase: api.ChDone}},
		{Phase: api.RsBody, Head: coded, Framing: api.RsChunked, Chunks: api.ChState{Line: "x"}}, {Phase: api.RsBody, Head: coded, Framing: api.RsChunked, Chunks: api.ChState{Phase: 5}},
		{Phase: api.RsWhole, Head: coded, Framing: api.RsChunked}, {Phase: api.RsWhole, Head: coded, Framing: api.RsChunked, Chunks: api.ChState{Phase: api.ChTrailer}},
		{Phase: api.RsWhole, Head: coded, Framing: api.RsChunked, Chunks: api.ChState{Phase: api.ChDone}, Body: "x"},
		{Phase: api.RsWhole, Head: coded, Framing: api.RsChunked, Chunks: api.ChState{Phase: api.ChDone, Trailers: fields("host", "x")}},
		{Phase: api.RsWhole, Head: coded, Framing: api.RsChunked, Chunks: api.ChState{Phase: api.ChDone, Data: all65536 + "x"}},
		{Phase: api.RsBody, Head: closed, Framing: api.RsClose, Left: 1}, {Phase: api.RsBody, Head: closed, Framing: api.RsClose, Left: -1}, {Phase: api.RsBody, Head: closed, Framing: api.RsClose, Line: "x"},
		{Phase: api.RsBody, Head: closed, Framing: api.RsClose, Body: all65536 + "x"}, {Phase: api.RsWhole, Head: closed, Framing: api.RsClose, Body: all65536 + "x"},
		{Phase: api.RsBody, Head: closed, Framing: api.RsClose, Chunks: api.ChState{Data: "x"}}, {Phase: api.RsWhole, Head: closed, Framing: api.RsClose, Chunks: api.ChState{Phase: api.ChDone}},
		{Phase: api.RsBody, Head: closed, Framing: api.RsLength}, {Phase: api.RsWhole, Head: closed, Framing: api.RsLength}, {Phase: api.RsWhole, Head: closed},
		{Phase: api.RsBody, Head: closed, Framing: 4}, {Phase: api.RsBody, Head: closed, Framing: -1},
		{Phase: api.RsBody, Head: closed, Framing: api.RsClose, Infos: 11}, {Phase: api.RsBody, Head: closed, Framing: api.RsClose, Infos: -1},
	} {
		x.Method = "GET"
		checkReached(t, x, false)
		compareReached(t, x)
	}
}

func TestHeadsOfStates(t *testing.T) { // P9.3, P9.4
	for _, h := range []api.RsHead{
		{Minor: 2, Status: 200}, {Minor: -1, Status: 200}, {Minor: math.MaxInt, Status: 200}, {Minor: 1}, {Minor: 1, Status: 99}, {Minor: 1, Status: 600}, {Minor: 1, Status: math.MaxInt}, {Minor: 1, Status: math.MinInt},
		{Status: 200, Reason: "\n"}, {Status: 200, Reason: "a\r"}, {Status: 200, Reason: "\x80"}, {Status: 200, Reason: "\x00"}, {Status: 200, Reason: strings.Repeat("x", 288)}, {Status: 200, Reason: strings.Repeat("x", 70000)},
		{Status: 200, Fields: fields("a b", "c")}, {Status: 200, Fields: fields("a", " b")}, {Status: 200, Fields: fields("a", "b\r\n")}, {Status: 200, Fields: fields("a", strings.Repeat("v", 2001))}, {Status: 200, Fields: long(8193)}, {Status: 200, Fields: slices.Repeat(fields("a", ""), 101)},
		final(200, "Content-Length", "x"), final(200, "Content-Length", "70000"), final(200, "Transfer-Encoding", "x"),
	} {
		for phase := api.RsHeading; phase <= api.RsWhole; phase++ {
			for kind := api.RsNone; kind <= api.RsClose; kind++ {
				x := api.RsState{Method: "GET", Phase: phase, Head: h, Framing: kind}
				checkReached(t, x, false)
			}
		}
	}
}

func TestManyStates(t *testing.T) { // P9.3, P9.4
	heads := []api.RsHead{{}, final(200, "Content-Length", "2"), final(200, "Content-Length", "0"), final(200, "Transfer-Encoding", "chunked"), {Status: 200}, final(204), final(100), final(200, "Content-Length", "x")}
	states := []api.ChState{{}, {Line: "1"}, {Line: "\n"}, {Phase: api.ChData, Left: 1}, {Phase: api.ChTrailer, Data: "a"}, {Phase: api.ChDone, Data: "a", Trailers: fields("a", "b")}, {Phase: api.ChDone}, {Trailers: fields("a", "b")}}
	for phase := -1; phase <= 3; phase++ {
		for kind := -1; kind <= 4; kind++ {
			for _, h := range heads {
				for _, y := range states {
					for _, body := range []string{"", "a", "ab"} {
						for left := -1; left <= 2; left++ {
							x := api.RsState{Method: "GET", Phase: phase, Head: h, Framing: kind, Body: body, Left: left, Chunks: y}
							compareReached(t, x)
							x.Method, x.Line = "HEAD", "H"
							compareReached(t, x)
						}
					}
				}
			}
		}
	}
}

func TestLinesOfStates(t *testing.T) { // P9.3, P9.4
	each([]string{"HTTP/1.1 ", "200", " ", "OK", "\r\n", "\n", "A:", "\r"}, 6, func(s string) {
		compareReached(t, api.RsState{Method: "GET", Line: s})
	})
	for n := 298; n < 305; n++ {
		compareReached(t, api.RsState{Method: "GET", Line: strings.Repeat("x", n)})
		compareReached(t, api.RsState{Method: "GET", Line: "HTTP/1.1 200 " + strings.Repeat("x", n-13)})
		compareReached(t, api.RsState{Method: "GET", Line: "HTTP/1.1 200 " + strings.Repeat("x", n-13) + "\r\n"})
	}
}

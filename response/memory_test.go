package response_test

import (
	"math"
	"slices"
	"strings"
	"sync"
	"testing"
	"unsafe"

	"spillway/api"
	"spillway/response"
)

// shared reports whether two strings share memory. Strings of one byte are left out: the language keeps these.
func shared(a, b string) bool {
	if len(a) < 2 || len(b) < 2 {
		return false
	}
	from, to := uintptr(unsafe.Pointer(unsafe.StringData(a))), uintptr(unsafe.Pointer(unsafe.StringData(b)))
	return from < to+uintptr(len(b)) && to < from+uintptr(len(a))
}

// checkFresh fails if two of the strings share memory.
func checkFresh(t *testing.T, what string, l ...string) {
	t.Helper()
	for i, a := range l {
		for _, b := range l[:i] {
			if shared(a, b) {
				t.Errorf("%s: %.60q and %.60q share memory", what, a, b)
			}
		}
	}
}

// behind is fields behind the fields of arguments.
var behind = fields("behind", "it", "behind", "it")

// freshFields is fields in new memory, with room behind them.
func freshFields(l []api.HdField) []api.HdField {
	var all []api.HdField
	for _, f := range l {
		all = append(all, field(strings.Clone(f.Name), strings.Clone(f.Value)))
	}
	return append(all, behind...)[:len(l)]
}

// freshHead is a head in new memory.
func freshHead(h api.RsHead) api.RsHead {
	h.Reason, h.Fields = strings.Clone(h.Reason), freshFields(h.Fields)
	return h
}

// fresh is a state in new memory.
func fresh(x api.RsState) api.RsState {
	x.Method, x.Line, x.Body, x.Head = strings.Clone(x.Method), strings.Clone(x.Line), strings.Clone(x.Body), freshHead(x.Head)
	x.Chunks.Line, x.Chunks.Data, x.Chunks.Trailers = strings.Clone(x.Chunks.Line), strings.Clone(x.Chunks.Data), freshFields(x.Chunks.Trailers)
	return x
}

// fieldStrs returns the strings of fields.
func fieldStrs(l []api.HdField) []string {
	var all []string
	for _, f := range l {
		all = append(all, f.Name, f.Value)
	}
	return all
}

// strs returns the strings of states.
func strs(l ...api.RsState) []string {
	var all []string
	for _, x := range l {
		all = append(all, x.Method, x.Line, x.Head.Reason, x.Body, x.Chunks.Line, x.Chunks.Data)
		all = append(append(all, fieldStrs(x.Head.Fields)...), fieldStrs(x.Chunks.Trailers)...)
	}
	return all
}

// responseStrs returns the strings of responses.
func responseStrs(l ...api.RsResponse) []string {
	var all []string
	for _, r := range l {
		all = append(append(append(all, r.Head.Reason, r.Body), fieldStrs(r.Head.Fields)...), fieldStrs(r.Trailers)...)
	}
	return all
}

// view is a string in the memory of b.
func view(b []byte) string { return unsafe.String(unsafe.SliceData(b), len(b)) }

// isKeptAsItWas reports whether there is still the same behind fields.
func isKeptAsItWas(l []api.HdField) bool { return slices.Equal(l[len(l):][:len(behind)], behind) }

// manyStates is states of all phases and framings, and some that are not reached.
func manyStates() []api.RsState {
	whole, _ := wholes()
	bad := api.RsState{Method: "no token", Phase: 7, Line: "line", Head: final(200, "name", "value"), Body: "content", Left: 3, Chunks: api.ChState{Line: "line", Data: "data", Trailers: fields("name", "value")}}
	closed := api.RsState{Method: "GET", Phase: api.RsBody, Head: final(200, "name", "value"), Framing: api.RsClose, Body: "content"}
	ended := closed
	ended.Phase = api.RsWhole
	return append(append(places(), whole...), bad, closed, ended)
}

func TestStatesAreFresh(t *testing.T) { // R3, P9.3
	for _, state := range manyStates() {
		for _, s := range []string{"", "ab", "\xff\xfe", "\n", "2\r\nab\r\n0\r\nname: value\r\n\r\n", text(final(200, "name", "value", "Content-Length", "7")) + "content"} {
			x, b := fresh(state), []byte(s)
			y, _, _ := response.Feed(x, b)
			z, _, _ := response.Feed(x, b)
			checkFresh(t, "Feed", append(strs(x, y, z), view(b))...)
			want := fresh(z)
			clear(b)
			clear(y.Head.Fields[:cap(y.Head.Fields)])
			clear(y.Chunks.Trailers[:cap(y.Chunks.Trailers)])
			if !same(x, state) || !isKeptAsItWas(x.Head.Fields) || !isKeptAsItWas(x.Chunks.Trailers) || !same(z, want) {
				t.Errorf("Feed(%s, %s): %s, %s", short(state), short(s), short(x), short(z))
			}
		}
	}
}

func TestEndsAndResponsesAreFresh(t *testing.T) { // R3, P9.4
	for _, state := range manyStates() {
		x := fresh(state)
		y, _ := response.End(x)
		z, _ := response.End(x)
		r, _ := response.Response(y)
		q, _ := response.Response(y)
		checkFresh(t, "End, Response", append(strs(x, y, z), responseStrs(r, q)...)...)
		want := fresh(z)
		wanted, _ := responseOf(want)
		for _, l := range [][]api.HdField{y.Head.Fields, y.Chunks.Trailers, r.Head.Fields, r.Trailers} {
			clear(l[:cap(l)])
		}
		if !same(x, state) || !isKeptAsItWas(x.Head.Fields) || !isKeptAsItWas(x.Chunks.Trailers) || !same(z, want) || !sameResponse(q, wanted) {
			t.Errorf("End(%s): %s, %s, %s", short(state), short(x), short(z), short(q))
		}
	}
	method := strings.Clone("METHOD")
	x, _ := response.Start(method)
	y, _ := response.Start(method)
	checkFresh(t, "Start", method, x.Method, y.Method)
}

func TestHeadsAreFresh(t *testing.T) { // R3, P9.1
	h := final(200, "name", "value", "other", "words")
	s := text(h)
	b := []byte(s + "behind")
	x, _, _ := response.Head(b)
	y, _, _ := response.Head(b)
	all := []string{view(b), x.Reason, y.Reason}
	checkFresh(t, "Head", append(append(all, fieldStrs(x.Fields)...), fieldStrs(y.Fields)...)...)
	if string(b) != s+"behind" {
		t.Errorf("Head: %q is %q now", s, b)
	}
	clear(b)
	clear(x.Fields[:cap(x.Fields)])
	if !sameHead(y, h) {
		t.Errorf("Head: %s", short(y))
	}
}

func TestWhatIsWrittenIsFresh(t *testing.T) { // R3, P9.2, P9.5
	for _, kind := range kinds {
		h, body := freshHead(final(200, "name", "value")), []byte("content, behind")[:7]
		if kind == api.RsNone {
			body = body[:0]
		}
		want, _ := printed(h, string(body), kind)
		a, _ := response.Print(h, body, kind)
		b, _ := response.Print(h, body, kind)
		response.Framing("GET", h)
		clear(a[:cap(a)])
		if string(body[:15]) != "content, behind" || !sameHead(h, final(200, "name", "value")) || !isKeptAsItWas(h.Fields) {
			t.Errorf("Print: its arguments are %q, %s now", body[:15], short(h))
		}
		clear(body[:15])
		if string(b) != want {
			t.Errorf("Print: %q, want %q", b, want)
		}
	}
}

func TestAllArgumentsAreAccepted(t *testing.T) { // R1
	much := strings.Repeat("\x00\"\\\n ;,=a:\r\xff0\r\n", 1<<13)
	many := []string{"", "GET", much, strings.Repeat("0", 1<<18), strings.Repeat("\r\n", 1<<17), strings.Repeat(info, 1<<13), "HTTP/1.1 200 \r\n" + strings.Repeat("a:\r\n", 1<<16)}
	numbers := []int{0, 1, 2, 3, 200, -1, math.MaxInt, math.MinInt}
	for i, s := range many {
		response.Start(s)
		response.Head([]byte(s))
		for j, n := range numbers {
			for k, m := range numbers {
				for _, l := range [][]api.HdField{nil, fields(s, s), fields("Content-Length", s), fields("transfer-encoding", "chunked"), make([]api.HdField, 200)} {
					h := api.RsHead{Minor: k % 2, Status: n, Reason: many[(i+j)%len(many)], Fields: l}
					response.Framing("GET", h)
					response.Framing(s, h)
					response.Print(h, []byte(s), m)
					x := api.RsState{Method: "GET", Phase: m, Infos: n, Head: h, Framing: k % 4, Body: s, Left: m, Chunks: api.ChState{Phase: n, Line: s, Data: s, Left: m, Trailers: l}}
					response.Feed(x, []byte(s))
					x.Line, x.Body, x.Chunks, x.Head.Status, x.Infos = s, "", api.ChState{}, 200, 0
					response.Feed(x, []byte(s))
					response.End(x)
					response.Response(x)
				}
			}
		}
	}
	response.Head(nil)
	response.Feed(start("GET"), nil)
	response.Print(final(200), nil, api.RsClose)
}

func TestResultsOfManyThreads(t *testing.T) { // R6
	h := final(200, "name", "value", "Transfer-Encoding", "chunked")
	s := text(h) + "2\r\nab\r\n0\r\nname: value\r\n\r\n"
	whole := api.RsState{Method: "GET", Phase: api.RsWhole, Head: h, Framing: api.RsChunked, Chunks: api.ChState{Phase: api.ChDone, Data: "ab", Trailers: fields("name", "value")}}
	var all sync.WaitGroup
	for range 8 {
		all.Go(func() {
			for range 200 {
				checkFeed(t, start("GET"), s, whole, len(s), api.OK)
				checkEnd(t, whole, whole, api.OK)
				checkResponse(t, whole, api.RsResponse{Head: h, Framing: api.RsChunked, Body: "ab", Trailers: fields("name", "value"), Keep: true}, api.OK)
				checkHead(t, text(h), h, len(text(h)), api.OK)
				checkFraming(t, "GET", h, api.RsChunked, 0, api.OK)
				checkPrint(t, final(204), "", api.RsNone, text(final(204)), api.OK)
			}
		})
	}
	all.Wait()
}

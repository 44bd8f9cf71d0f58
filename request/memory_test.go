package request_test

import (
	"bytes"
	"slices"
	"strings"
	"sync"
	"testing"
	"unsafe"

	"spillway/api"
	"spillway/request"
)

// shared reports whether two strings share memory.
func shared(a, b string) bool {
	if a == "" || b == "" {
		return false
	}
	from, to := uintptr(unsafe.Pointer(unsafe.StringData(a))), uintptr(unsafe.Pointer(unsafe.StringData(b)))
	return from < to+uintptr(len(b)) && to < from+uintptr(len(a))
}

// checkFresh fails if two of the strings share memory.
func checkFresh(t *testing.T, what string, l ...string) {
	t.Helper()
	for i, a := range l {
		for _, b := range l[:i] {
			if shared(a, b) {
				t.Errorf("%s: %.60q and %.60q share memory", what, a, b)
			}
		}
	}
}

// strs returns the strings of requests.
func strs(l ...api.Request) []string {
	var all []string
	for _, r := range l {
		all = append(all, r.Method, r.Target, r.Host, r.Body)
		for _, f := range r.Fields {
			all = append(all, f.Name, f.Value)
		}
	}
	return all
}

// view is a string in the memory of b.
func view(b []byte) string { return unsafe.String(&b[0], len(b)) }

func TestStringsAreFresh(t *testing.T) { // P7.10, R3
	r := api.Request{Id: 7, Method: strings.Clone("POST"), Target: strings.Clone("/path/words?query"), Host: strings.Clone("example.com"), Body: strings.Clone("content")}
	r.Fields = fields(strings.Clone("Accept"), strings.Clone("letters"), strings.Clone("other"), strings.Clone("words"))
	target, plain := strings.Clone("/path/words?query"), strings.Clone("/path/words")
	all := append(strs(r), target, plain)
	for range 2 {
		path, query, _, _ := request.Split(target)
		whole, _, _, _ := request.Split(plain)
		first, _ := request.Clean(target)
		second, _ := request.Clean(plain)
		encoded, _ := request.Encode(r)
		all = append(all, path, query, whole, first, second, encoded)
		for _, name := range []string{"accept", "Other"} {
			key, _ := request.Key(r, api.CfField, name)
			all = append(all, key)
		}
		byPath, _ := request.Key(r, api.CfPath, "")
		byHost, _ := request.Key(r, api.CfHost, "")
		all = append(all, byPath, byHost)
	}
	checkFresh(t, "requests", all...)
	if slices.Contains(all, "") {
		t.Errorf("a result is empty: %q", all)
	}
}

func TestStringsThatAreReadAreFresh(t *testing.T) { // P7.10, R3
	r := build("PATCH", "/path?query", "content", fields("Accept", "letters", "other", "words")...)
	r.Host = "example.com"
	b, rest := []byte(message(r)), []byte(message(r)+message(r)[:20])
	first, _, _ := request.Parse(b)
	second, _, _ := request.Parse(b)
	l, left, _ := request.Feed(b, rest)
	checkFresh(t, "Parse and Feed", append(strs(append(l, first, second)...), view(b), view(rest), view(left))...)
	clear(b)
	clear(rest)
	clear(left[:cap(left)])
	for _, x := range append(l, first, second) {
		if !same(x, r) {
			t.Errorf("%+v is %+v now", r, x)
		}
	}
	if len(l) != 2 {
		t.Errorf("%d requests", len(l))
	}
	l[0].Fields = append(l[0].Fields, field("x", "y"))
	clear(l[0].Fields[:cap(l[0].Fields)])
	clear(first.Fields[:cap(first.Fields)])
	if !same(l[1], r) || !same(second, r) {
		t.Errorf("%+v and %+v instead of %+v", l[1], second, r)
	}
}

func TestBytesThatAreLeftAreFresh(t *testing.T) { // P7.10, R3
	for _, x := range [][2]string{{"", "GET /"}, {"GET /", ""}, {"GET", " /"}} {
		rest := append(make([]byte, 0, 100), x[0]...)
		more := append(make([]byte, 0, 100), x[1]...)
		_, left, _ := request.Feed(rest, more)
		clear(left[:cap(left)])
		if string(rest) != x[0] || string(more) != x[1] {
			t.Errorf("%q and %q instead of %q", rest, more, x)
		}
		_, left, _ = request.Feed(rest, more)
		clear(rest[:cap(rest)])
		clear(more[:cap(more)])
		if string(left) != x[0]+x[1] {
			t.Errorf("%q is left of %q", left, x)
		}
	}
}

func TestArgumentsAreNotModified(t *testing.T) { // P7.10, R3
	faulty(func(r api.Request) {
		behind := fields("behind", "it")
		l := slices.Concat(r.Fields, slices.Repeat(behind, 4))
		given := r
		given.Fields = l[:len(r.Fields)]
		request.Check(given)
		request.Encode(given)
		request.Key(given, api.CfPath, "")
		request.Key(given, api.CfField, "a")
		if !same(given, r) || !slices.Equal(l[len(r.Fields):], slices.Repeat(behind, 4)) {
			t.Errorf("%s is %s now", short(r), short(given))
		}
	})
	next := numbers(8)
	for range 2000 {
		s := anyStream(next)
		b, i := []byte(s+"behind"), next(len(s)+1)
		request.Parse(b[:len(s)])
		request.Feed(b[:i], b[i:len(s)])
		request.Feed(b[:i:i], b[:len(s)])
		if string(b) != s+"behind" {
			t.Errorf("%q is %q now", s, b)
		}
	}
}

func TestAllArgumentsAreAccepted(t *testing.T) { // P7.10, R1
	much := strings.Repeat("\x00\"%\n /?.:\r\xff", 1<<17)
	for _, s := range []string{"", much, much[:500], much[:64], strings.Repeat("%", 500), "/" + strings.Repeat("%", 499), "/" + strings.Repeat("%4", 249), strings.Repeat("/..", 166), strings.Repeat("/", 500), strings.Repeat("a", 1<<20), strings.Repeat("\n", 1<<20), strings.Repeat(" ", 1<<20), strings.Repeat("GET / HTTP/1.1\r\n", 1<<16), "GET / HTTP/1.1\r\n" + strings.Repeat("a:\r\n", 1<<18)} {
		request.Method(s)
		request.Split(s)
		request.Clean(s)
		request.Parse([]byte(s))
		request.Feed([]byte(s), []byte(s))
		for _, r := range []api.Request{
			{Id: -1 << 63, Method: s, Target: s, Host: s, Fields: fields(s, s), Body: s},
			{Id: 1, Method: "PUT", Target: s, Host: s, Fields: fields(s, s), Body: s},
			{Id: 1, Method: "PUT", Target: "/", Host: "h", Fields: fields("a", s), Body: s},
			{Id: 1, Method: "PUT", Target: "/", Host: "h", Fields: fields("Connection", s), Body: s},
			{Id: 1, Method: "PUT", Target: "/", Host: "h", Fields: make([]api.HdField, 1<<20), Body: s},
			{Id: 1, Method: "PUT", Target: "/", Host: "h", Body: s},
		} {
			request.Check(r)
			request.Encode(r)
			for kind := -1; kind < 5; kind++ {
				request.Key(r, kind, s)
				request.Key(r, kind, "")
			}
		}
	}
	request.Parse(nil)
	request.Feed(nil, nil)
}

func TestNilAndEmptyListsAreTheSame(t *testing.T) { // R4
	r := build("GET", "/", "")
	r.Fields = []api.HdField{}
	checkEncode(t, r, message(build("GET", "/", "")), api.OK)
	for _, rest := range [][]byte{nil, {}} {
		for _, more := range [][]byte{nil, {}} {
			if l, left, e := request.Feed(rest, more); len(l) > 0 || len(left) > 0 || e != api.OK {
				t.Errorf("Feed of no bytes: %v, %q, %d", l, left, e)
			}
		}
	}
	if r, used, e := request.Parse([]byte{}); !same(r, api.Request{}) || used != 0 || e != api.ErrMore {
		t.Errorf("Parse of no bytes: %v, %d, %d", r, used, e)
	}
}

func TestResultsOfManyThreads(t *testing.T) { // P7.10, R6
	r := build("POST", "/a/../b%7e?x", "content", fields("Accept", "*", "TE", "x")...)
	want, stream := message(r), []byte(message(r)+message(r))
	before := bytes.Clone(stream)
	var all sync.WaitGroup
	for range 8 {
		all.Go(func() {
			for range 200 {
				checkEncode(t, r, want, api.OK)
				checkParse(t, want, stripped(r), len(want), api.OK)
				checkClean(t, r.Target, "/b~?x", api.OK)
				checkKey(t, r, api.CfField, "te", "x", api.OK)
				if l, left, e := request.Feed(stream, stream[:10]); len(l) != 2 || string(left) != want[:10] || e != api.OK {
					t.Errorf("Feed: %d requests, %q, %d", len(l), left, e)
				}
			}
		})
	}
	all.Wait()
	if !bytes.Equal(stream, before) {
		t.Errorf("%q is %q now", before, stream)
	}
}

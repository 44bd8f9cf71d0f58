package headers_test

import (
	"bytes"
	"slices"
	"strings"
	"sync"
	"testing"
	"unsafe"

	"spillway/api"
	"spillway/headers"
)

// shared reports whether two strings share memory.
func shared(a, b string) bool {
	if a == "" || b == "" {
		return false
	}
	from, to := uintptr(unsafe.Pointer(unsafe.StringData(a))), uintptr(unsafe.Pointer(unsafe.StringData(b)))
	return from < to+uintptr(len(b)) && to < from+uintptr(len(a))
}

// checkFresh fails if two of the strings share memory.
func checkFresh(t *testing.T, what string, l ...string) {
	t.Helper()
	for i, a := range l {
		for _, b := range l[:i] {
			if shared(a, b) {
				t.Errorf("%s: %q and %q share memory", what, a, b)
			}
		}
	}
}

// strs returns the strings of lists.
func strs(lists ...[]api.HdField) []string {
	var all []string
	for _, l := range lists {
		for _, f := range l {
			all = append(all, f.Name, f.Value)
		}
	}
	return all
}

// fresh is a list whose strings share no memory.
func fresh(l []api.HdField) []api.HdField {
	l = slices.Clone(l)
	for i, f := range l {
		l[i] = field(strings.Clone(f.Name), strings.Clone(f.Value))
	}
	return l
}

func TestStringsAreFresh(t *testing.T) { // P6.9, R3
	l := fresh(fields("Host", "example", "Connection", "close, X-Hop", "x-hop", "first", "keep-alive", "other", "Accept", "words"))
	f := field(strings.Clone("Accept"), strings.Clone("letters"))
	for range 2 {
		added, _ := headers.Add(l, f)
		set, _ := headers.Set(l, f)
		deleted, _ := headers.Del(l, "none")
		stripped, _ := headers.Strip(l)
		all := strs(l, []api.HdField{f}, added, set, deleted, stripped)
		for range 2 {
			values, _ := headers.Get(l, "accept")
			one, _ := headers.Combined(l, "accept")
			names, _ := headers.Hop(l)
			printed, _ := headers.Print(l)
			canon, _ := headers.Canon(f.Name)
			all = append(append(append(all, values...), names...), one, printed, canon)
		}
		checkFresh(t, "lists", all...)
	}
	b := []byte("Host: example\r\nAccept:words\r\n\r\n")
	parsed, _, _ := headers.Parse(b)
	again, _, _ := headers.Parse(b)
	checkFresh(t, "Parse", append(strs(parsed, again), unsafe.String(&b[0], len(b)))...)
	clear(b)
	checkList(t, "Parse", parsed, api.OK, fields("Host", "example", "Accept", "words"), api.OK)
}

// filled returns a list with room behind it, which has fields of its own.
func filled(l []api.HdField) []api.HdField {
	return slices.Concat(l, slices.Repeat(fields("behind", "it"), 4))[:len(l)]
}

func TestListsAreFresh(t *testing.T) { // P6.9, R3
	l := filled(example())
	calls := []func() []api.HdField{
		func() []api.HdField { x, _ := headers.Add(l, field("a", "b")); return x },
		func() []api.HdField { x, _ := headers.Set(l, field("a", "b")); return x },
		func() []api.HdField { x, _ := headers.Set(l, field("host", "b")); return x },
		func() []api.HdField { x, _ := headers.Del(l, "none"); return x },
		func() []api.HdField { x, _ := headers.Del(l, "accept"); return x },
		func() []api.HdField { x, _ := headers.Strip(l[:1]); return x },
		func() []api.HdField { x, _, _ := headers.Parse([]byte(lines(l))); return x },
	}
	for i, call := range calls {
		a, b := call(), call()
		want := slices.Clone(a)
		clear(b[:cap(b)])
		if len(want) == 0 || !slices.Equal(a, want) || !slices.Equal(l, example()) || !slices.Equal(l[:len(l)+4], filled(example())[:len(l)+4]) {
			t.Errorf("call %d: %q, %q", i, a, l[:cap(l)])
		}
	}
	v, _ := headers.Get(l, "accept")
	clear(v[:cap(v)])
	checkGet(t, l, "accept", []string{"b", "c"}, api.OK)
	v, _ = headers.Hop(l)
	clear(v[:cap(v)])
	checkHop(t, l, []string{"connection", "x-hop"}, api.OK)
}

func TestArgumentsAreNotModified(t *testing.T) { // P6.9, R3
	for _, list := range [][]api.HdField{
		nil,
		example(),
		fields("b", "1", "a", "2", "B", "3"),
		fields("a", " "),
		fields("Connection", "b, a", "a", "1", "b", "2"),
		fields("Connection", "\"", "a", "1"),
		slices.Repeat(fields("a", "b"), 100),
		slices.Repeat(fields("a", "b"), 101),
		long(8192),
		long(8193),
	} {
		given, other := filled(list), filled(example())
		for _, f := range fields("a", "x", "B", "x", "none", "x", "a b", "x", "a", " ") {
			headers.Get(given, f.Name)
			headers.Add(given, f)
			headers.Set(given, f)
			headers.Del(given, f.Name)
			headers.Combined(given, f.Name)
		}
		headers.Check(given)
		headers.Print(given)
		headers.Hop(given)
		headers.Strip(given)
		headers.Same(given, other)
		headers.Same(other, given)
		if !slices.Equal(given[:len(list)+4], filled(list)[:len(list)+4]) || !slices.Equal(other[:len(other)+4], filled(example())[:len(other)+4]) {
			t.Errorf("%.200q is %.200q now", list, given)
		}
		b := []byte(lines(list) + "rest")
		before := bytes.Clone(b)
		headers.Parse(b[:len(b)-4])
		if !bytes.Equal(b, before) {
			t.Errorf("%.200q is %.200q now", before, b)
		}
	}
}

func TestAllArgumentsAreAccepted(t *testing.T) { // P6.9, R1
	much := strings.Repeat("\x00\"\\\n ;,=a:\r\xff", 1<<17)
	for _, s := range []string{"", much, much[:2000], much[:64], strings.Repeat(`"`, 2000), strings.Repeat("a,", 1000), strings.Repeat("a", 1<<20), strings.Repeat(" ", 1<<20), strings.Repeat("\n", 1<<20), strings.Repeat("\r\n", 1<<20), strings.Repeat("a:\r\n", 1<<18)} {
		headers.Canon(s)
		headers.Parse([]byte(s))
		for _, l := range [][]api.HdField{nil, example(), fields(s, s), fields("connection", s, "a", ""), slices.Repeat(fields("a", s), 100), make([]api.HdField, 1<<20)} {
			for _, f := range fields(s, s, s, "x", "a", s) {
				headers.Get(l, f.Name)
				headers.Add(l, f)
				headers.Set(l, f)
				headers.Del(l, f.Name)
				headers.Combined(l, f.Name)
			}
			headers.Check(l)
			headers.Print(l)
			headers.Hop(l)
			headers.Strip(l)
			headers.Same(l, l)
			headers.Same(nil, l)
		}
	}
	headers.Parse(nil)
}

func TestResultsOfManyThreads(t *testing.T) { // P6.9, R6
	l, want := example(), lines(example())
	var all sync.WaitGroup
	for range 8 {
		all.Go(func() {
			for range 200 {
				checkPrint(t, l, want, api.OK)
				checkParse(t, want, l, len(want), api.OK)
				checkHop(t, l, []string{"connection", "x-hop"}, api.OK)
				checkSet(t, l, field("Accept", "d"), append(example()[:3], field("Accept", "d")), api.OK)
				checkSame(t, l, l, true, api.OK)
			}
		})
	}
	all.Wait()
}

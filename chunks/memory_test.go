package chunks_test

import (
	"bytes"
	"math"
	"slices"
	"strings"
	"sync"
	"testing"
	"unsafe"

	"spillway/api"
	"spillway/chunks"
)

// shared reports whether two strings share memory. Strings of one byte are left out: the language keeps these.
func shared(a, b string) bool {
	if len(a) < 2 || len(b) < 2 {
		return false
	}
	from, to := uintptr(unsafe.Pointer(unsafe.StringData(a))), uintptr(unsafe.Pointer(unsafe.StringData(b)))
	return from < to+uintptr(len(b)) && to < from+uintptr(len(a))
}

// checkFresh fails if two of the strings share memory.
func checkFresh(t *testing.T, what string, l ...string) {
	t.Helper()
	for i, a := range l {
		for _, b := range l[:i] {
			if shared(a, b) {
				t.Errorf("%s: %q and %q share memory", what, a, b)
			}
		}
	}
}

// fresh is a state that shares no memory with another one; there is room behind its trailers.
func fresh(x api.ChState) api.ChState {
	l := slices.Repeat(fields("behind", "it"), len(x.Trailers)+2)
	for i, f := range x.Trailers {
		l[i] = field(strings.Clone(f.Name), strings.Clone(f.Value))
	}
	x.Line, x.Data, x.Trailers = strings.Clone(x.Line), strings.Clone(x.Data), l[:len(x.Trailers)]
	return x
}

// strs returns the strings of a state.
func strs(x api.ChState) []string {
	all := []string{x.Line, x.Data}
	for _, f := range x.Trailers {
		all = append(all, f.Name, f.Value)
	}
	return all
}

// manyStates is states of all phases, and some that are not reached.
func manyStates() []api.ChState {
	return append(places(),
		api.ChState{Data: "data", Line: "1f;x"},
		api.ChState{Phase: api.ChDone, Data: "data", Trailers: fields("name", "value", "other", "values")},
		api.ChState{Phase: api.ChDone, Data: "data", Line: "line", Left: 7, Trailers: fields("name", "value", "Host", "values")},
		api.ChState{Phase: -1, Data: "data", Line: "line", Left: 7, Trailers: fields("na me", "value")},
	)
}

func TestStatesAreFresh(t *testing.T) { // R3, P8.2
	for _, state := range manyStates() {
		for _, s := range []string{"", "ab", "\xff\xfe", "2\r\nab\r\n0\r\nname: value\r\n\r\n", "\r\n0\r\nname: value\r\n\r\n"} {
			x, b := fresh(state), []byte(s)
			y, _, _ := chunks.Feed(x, b)
			z, _, _ := chunks.Feed(x, b)
			checkFresh(t, "Feed", slices.Concat(strs(x), strs(y), strs(z), []string{unsafe.String(unsafe.SliceData(b), len(b))})...)
			want := fresh(z)
			clear(b)
			clear(y.Trailers[:cap(y.Trailers)])
			if !same(x, state) || !slices.Equal(x.Trailers[len(x.Trailers):][:2], fields("behind", "it", "behind", "it")) || !same(z, want) {
				t.Errorf("Feed(%s, %s): %s, %s", short(state), short(s), short(x), short(z))
			}
		}
	}
}

func TestDataAndTrailersAreFresh(t *testing.T) { // R3, P8.3
	b := []byte("4\r\ndata\r\n3\r\nabc\r\n0\r\nname: value\r\nother: word\r\n\r\n")
	given := bytes.Clone(b)
	d, l, _, _ := chunks.Decode(b)
	other, m, _, _ := chunks.Decode(b)
	if !bytes.Equal(b, given) {
		t.Errorf("Decode: %q is %q now", given, b)
	}
	all := []string{unsafe.String(&b[0], len(b)), unsafe.String(&d[0], len(d)), unsafe.String(&other[0], len(other))}
	for _, f := range slices.Concat(l, m) {
		all = append(all, f.Name, f.Value)
	}
	checkFresh(t, "Decode", all...)
	clear(b)
	clear(d[:cap(d)])
	clear(l[:cap(l)])
	if string(other) != "dataabc" || !slices.Equal(m, fields("name", "value", "other", "word")) {
		t.Errorf("Decode: %q, %q", other, m)
	}
}

func TestWhatIsWrittenIsFresh(t *testing.T) { // R3, P8.4
	data, sizes, l := []byte("hello, behind")[:5], []int{2, 3, 9, 9}[:2], slices.Repeat(fields("name", "value"), 3)[:1]
	b, _ := chunks.Encode(data, sizes, l)
	other, _ := chunks.Encode(data, sizes, l)
	clear(b[:cap(b)])
	if string(other) != "2\r\nhe\r\n3\r\nllo\r\n0\r\nname: value\r\n\r\n" {
		t.Errorf("Encode: %q", other)
	}
	if string(data[:13]) != "hello, behind" || !slices.Equal(sizes[:4], []int{2, 3, 9, 9}) || !slices.Equal(l[:3], slices.Repeat(fields("name", "value"), 3)) {
		t.Errorf("Encode: its arguments are %q, %v, %q now", data[:13], sizes[:4], l[:3])
	}
	clear(data)
	if string(other[3:5]) != "he" {
		t.Errorf("Encode: %q", other)
	}
	for _, n := range []int{0, 7, 65536} {
		a, _ := chunks.Cut(n, 3)
		want := slices.Clone(a)
		c, _ := chunks.Cut(n, 3)
		clear(c[:cap(c)])
		if !slices.Equal(a, want) {
			t.Errorf("Cut(%d, 3): %.100v", n, a)
		}
	}
}

func TestAllArgumentsAreAccepted(t *testing.T) { // R1
	much := strings.Repeat("\x00\"\\\n ;,=a:\r\xff0\r\n", 1<<15)
	for _, s := range []string{"", much, strings.Repeat("0", 1<<20), strings.Repeat("\r\n", 1<<19), strings.Repeat("a:\r\n", 1<<18), "0\r\n" + much, "0\r\n" + strings.Repeat("a:\r\n", 1<<18), "1;" + strings.Repeat(" ", 1<<20)} {
		for phase := -2; phase < 7; phase++ {
			for _, left := range []int{0, 1, -1, math.MaxInt, math.MinInt} {
				for _, l := range [][]api.HdField{nil, fields(s, s), make([]api.HdField, 200)} {
					x := api.ChState{Phase: phase, Line: s, Data: s, Left: left, Trailers: l}
					chunks.Check(x)
					chunks.Feed(x, []byte(s))
					x.Line, x.Data = "", ""
					chunks.Feed(x, []byte(s))
				}
			}
		}
		chunks.Decode([]byte(s))
		for _, sizes := range [][]int{nil, {len(s)}, {math.MaxInt, 1}, make([]int, 1<<20)} {
			chunks.Encode([]byte(s), sizes, fields(s, s))
			chunks.Encode([]byte(s), sizes, make([]api.HdField, 1<<20))
		}
	}
	chunks.Feed(api.ChState{}, nil)
	chunks.Decode(nil)
	chunks.Encode(nil, nil, nil)
}

func TestResultsOfManyThreads(t *testing.T) { // R6
	whole := "2\r\nab\r\n0\r\nname: value\r\n\r\n"
	l := fields("name", "value")
	var all sync.WaitGroup
	for range 8 {
		all.Go(func() {
			for range 200 {
				checkDecode(t, whole, "ab", l, len(whole), api.OK)
				checkEncode(t, "ab", []int{2}, l, whole, api.OK)
				checkFeed(t, api.ChState{Phase: api.ChEnd, Data: "ab"}, whole[5:], api.ChState{Phase: api.ChDone, Data: "ab", Trailers: l}, len(whole)-5, api.OK)
				checkCut(t, 5, 2, []int{2, 2, 1}, api.OK)
			}
		})
	}
	all.Wait()
}

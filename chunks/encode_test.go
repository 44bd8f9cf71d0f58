package chunks_test

import (
	"math"
	"slices"
	"strings"
	"testing"

	"spillway/api"
	"spillway/chunks"
)

// checkEncode fails if Encode does not return these results.
func checkEncode(t *testing.T, data string, sizes []int, l []api.HdField, want string, e api.Errno) {
	t.Helper()
	b, got := chunks.Encode([]byte(data), sizes, l)
	if string(b) != want || got != e {
		t.Errorf("Encode(%s, %.100v, %s): %s, %d, want %s, %d", short(data), sizes, short(l), short(b), got, short(want), e)
	}
}

// compareEncode fails if Encode does not return what the model does.
func compareEncode(t *testing.T, data string, sizes []int, l []api.HdField) {
	t.Helper()
	want, e := encode(data, sizes, l)
	checkEncode(t, data, sizes, l, want, e)
}

// checkCut fails if Cut does not return these results.
func checkCut(t *testing.T, n, size int, want []int, e api.Errno) {
	t.Helper()
	if l, got := chunks.Cut(n, size); !slices.Equal(l, want) || got != e {
		t.Errorf("Cut(%d, %d): %.100v, %d, want %.100v, %d", n, size, l, got, want, e)
	}
}

func TestEncodeOfExamples(t *testing.T) { // P8.4
	checkEncode(t, "hello", []int{3, 2}, nil, "3\r\nhel\r\n2\r\nlo\r\n0\r\n\r\n", api.OK)
	checkEncode(t, "hello", []int{5}, nil, "5\r\nhello\r\n0\r\n\r\n", api.OK)
	checkEncode(t, "hello", []int{1, 1, 1, 1, 1}, nil, "1\r\nh\r\n1\r\ne\r\n1\r\nl\r\n1\r\nl\r\n1\r\no\r\n0\r\n\r\n", api.OK)
	checkEncode(t, "", nil, nil, "0\r\n\r\n", api.OK)
	checkEncode(t, "", []int{}, []api.HdField{}, "0\r\n\r\n", api.OK)
	checkEncode(t, "\r\n", []int{2}, fields("a", "", "B", "c d", "a", "e"), "2\r\n\r\n\r\n0\r\na: \r\nB: c d\r\na: e\r\n\r\n", api.OK)
	ten := strings.Repeat("0123456789abcdef", 4096)
	checkEncode(t, ten[:10], []int{10}, nil, "a\r\n0123456789\r\n0\r\n\r\n", api.OK)
	checkEncode(t, ten[:27], []int{16, 11}, nil, "10\r\n"+ten[:16]+"\r\nb\r\n0123456789a\r\n0\r\n\r\n", api.OK)
	checkEncode(t, ten, []int{65536}, nil, "10000\r\n"+ten+"\r\n0\r\n\r\n", api.OK)
	checkEncode(t, ten[:48879], []int{48879}, nil, "beef\r\n"+ten[:48879]+"\r\n0\r\n\r\n", api.OK)
}

func TestEncodeOfEachSize(t *testing.T) { // P8.4
	for n := 1; n <= 300; n++ {
		compareEncode(t, strings.Repeat("xy", 150)[:n], []int{n}, nil)
		compareEncode(t, strings.Repeat("xy", 151)[:n+1], []int{n, 1}, nil)
	}
	checkEncode(t, all65536, slices.Repeat([]int{1}, 65536), nil, strings.Repeat(chunk("x"), 65536)+"0\r\n\r\n", api.OK)
}

func TestEncodeOfWrongSizes(t *testing.T) { // P8.4
	for _, sizes := range [][]int{
		nil,
		{4},
		{6},
		{5, 1},
		{4, 2},
		{2, 2},
		{0},
		{0, 5},
		{5, 0},
		{2, 0, 3},
		{-1, 6},
		{6, -1},
		{math.MaxInt},
		{math.MaxInt, math.MaxInt, 7},
		{5, math.MaxInt, math.MaxInt, 2},
		{math.MinInt, math.MinInt, 5},
		{math.MaxInt, math.MinInt, 6},
	} {
		checkEncode(t, "hello", sizes, nil, "", api.ErrArg)
		checkEncode(t, "hello", sizes, fields("a b", "c"), "", api.ErrArg)
		checkEncode(t, "hello", sizes, fields("a", strings.Repeat("v", 2001)), "", api.ErrArg)
		checkEncode(t, "hello", sizes, fields("Host", "c"), "", api.ErrArg)
	}
	for _, sizes := range [][]int{{0}, {1}, {-1}, {1, -1}, {math.MaxInt, math.MaxInt, 2}} {
		checkEncode(t, "", sizes, nil, "", api.ErrArg)
	}
}

func TestEncodeOfTooMuch(t *testing.T) { // P8.4
	much := all65536 + "x"
	for _, sizes := range [][]int{nil, {65537}, {65536, 1}, {0}, {-1}} {
		for _, l := range [][]api.HdField{nil, fields("a b", "c"), fields("Host", "c")} {
			checkEncode(t, much, sizes, l, "", api.ErrLong)
		}
	}
}

func TestEncodeOfTrailers(t *testing.T) { // P8.4
	for _, l := range [][]api.HdField{long(8192), slices.Repeat(fields("a", "b"), 100), fields("a", strings.Repeat("v", 2000)), fields("te", "trailer", "x-host", "host", "hosts", "")} {
		checkEncode(t, "x", []int{1}, l, "1\r\nx\r\n0\r\n"+lines(l), api.OK)
	}
	for _, l := range [][]api.HdField{long(8193), slices.Repeat(fields("a", "b"), 101), fields("a", strings.Repeat("v", 2001))} {
		checkEncode(t, "x", []int{1}, l, "", api.ErrLong)
	}
	for _, l := range [][]api.HdField{fields("", "x"), fields("a b", "c"), fields("a", "b "), fields("a", "\r\n"), fields("a", "b", "a:", "c")} {
		checkEncode(t, "x", []int{1}, l, "", api.ErrForm)
	}
	for _, name := range []string{"connection", "content-length", "host", "trailer", "transfer-encoding", "Connection", "CONTENT-LENGTH", "hOst", "TraileR", "Transfer-Encoding"} {
		for _, l := range [][]api.HdField{fields(name, ""), fields("a", "b", name, "c"), fields(name, "c", "a", "b")} {
			checkEncode(t, "x", []int{1}, l, "", api.ErrForm)
		}
		// Errors of headers.Check come first.
		checkEncode(t, "x", []int{1}, fields(name, "x", "a", strings.Repeat("v", 2001)), "", api.ErrLong)
		checkEncode(t, "x", []int{1}, fields(name, strings.Repeat("v", 2001)), "", api.ErrLong)
		checkEncode(t, "x", []int{1}, append(long(8190), field(name, "")), "", api.ErrLong)
		checkEncode(t, "x", []int{1}, append(fields(name, ""), slices.Repeat(fields("a", "b"), 100)...), "", api.ErrLong)
	}
}

func TestEncodeOfManyParts(t *testing.T) { // P8.4
	datas := []string{"", "a", "\r\n", "abc", strings.Repeat("y", 20)}
	sizes := [][]int{nil, {1}, {2}, {1, 1}, {3}, {1, 2}, {2, 1}, {1, 1, 1}, {0, 3}, {3, 0}, {4, -1}, {20}, {10, 10}, {16, 4}, {19, 1}, {19, 2}}
	trailers := [][]api.HdField{nil, fields("a", "b"), fields("a", "", "a", "c"), fields("host", "b"), fields("a", "b", "Trailer", ""), fields("a ", "b"), fields("host", "\n"), fields("a", strings.Repeat("v", 2001))}
	for _, data := range datas {
		for _, s := range sizes {
			for _, l := range trailers {
				compareEncode(t, data, s, l)
			}
		}
	}
}

func TestCutOfExamples(t *testing.T) { // P8.4
	checkCut(t, 7, 3, []int{3, 3, 1}, api.OK)
	checkCut(t, 6, 3, []int{3, 3}, api.OK)
	checkCut(t, 0, 3, nil, api.OK)
	checkCut(t, 1, 1, []int{1}, api.OK)
	checkCut(t, 3, 4, []int{3}, api.OK)
	checkCut(t, 3, math.MaxInt, []int{3}, api.OK)
	checkCut(t, 0, math.MaxInt, nil, api.OK)
	checkCut(t, 65536, 65536, []int{65536}, api.OK)
	checkCut(t, 65536, 65535, []int{65535, 1}, api.OK)
	checkCut(t, 65536, 1, slices.Repeat([]int{1}, 65536), api.OK)
}

func TestCutOfErrors(t *testing.T) { // P8.4
	for _, n := range []int{-1, math.MinInt} {
		for _, size := range []int{1, 0, -1, math.MaxInt} {
			checkCut(t, n, size, nil, api.ErrArg)
		}
	}
	for _, n := range []int{0, 1, 65536, 65537, math.MaxInt} {
		for _, size := range []int{0, -1, math.MinInt} {
			checkCut(t, n, size, nil, api.ErrArg)
		}
	}
	for _, n := range []int{65537, math.MaxInt} {
		for _, size := range []int{1, n, math.MaxInt} {
			checkCut(t, n, size, nil, api.ErrLong)
		}
	}
}

func TestCutOfManyNumbers(t *testing.T) { // P8.4
	for n := range 100 {
		for size := 1; size < 110; size++ {
			want := slices.Repeat([]int{size}, n/size)
			if n%size > 0 {
				want = append(want, n%size)
			}
			checkCut(t, n, size, want, api.OK)
			compareEncode(t, all65536[:n], want, nil)
		}
	}
}

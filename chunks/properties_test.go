package chunks_test

import (
	"strings"
	"testing"

	"spillway/api"
	"spillway/chunks"
)

// anyParts is data, sizes of chunks for it, and trailers, which Encode takes.
func anyParts(next func(n int) int) (data string, sizes []int, l []api.HdField) {
	for range next(6) {
		n := 1 + next(40)
		sizes = append(sizes, n)
		for range n {
			data += string([]byte{byte(next(256))})
		}
	}
	for range next(4) {
		l = append(l, field([]string{"a", "A", "x-Y", "te", "hosts"}[next(5)], []string{"", "b", "c \t d", "0\\r\\n", ":;,"}[next(5)]))
	}
	return data, sizes, l
}

func TestDecodeOfEncode(t *testing.T) { // P8.5
	next := numbers(2)
	for range 3000 {
		data, sizes, l := anyParts(next)
		b, e := chunks.Encode([]byte(data), sizes, l)
		if e != api.OK {
			t.Fatalf("Encode(%s, %v, %s): %d", short(data), sizes, short(l), e)
		}
		s := string(b)
		for _, after := range []string{"", "x", "\r\n", s, "\xff\x00"} {
			checkDecode(t, s+after, data, l, len(s), api.OK)
		}
	}
}

func TestDecodeOfEncodeOfCut(t *testing.T) { // P8.5
	for _, n := range []int{0, 1, 15, 16, 17, 255, 256, 4096, 65535, 65536} {
		data := strings.Repeat("0\r\n\r\n1\x00", 10000)[:n]
		for _, size := range []int{1, 9, 10, 16, 255, 4096, 65535, 65536, 70000} {
			sizes, e := chunks.Cut(n, size)
			if e != api.OK {
				t.Fatalf("Cut(%d, %d): %d", n, size, e)
			}
			for _, l := range [][]api.HdField{nil, fields("a", "b"), long(8192)} {
				b, e := chunks.Encode([]byte(data), sizes, l)
				if e != api.OK {
					t.Fatalf("Encode of %d in %d: %d", n, size, e)
				}
				checkDecode(t, string(b), data, l, len(b), api.OK)
				checkDecode(t, string(b)+"0", data, l, len(b), api.OK)
			}
		}
	}
}

func TestEncodeOfDecode(t *testing.T) { // P8.5
	next := numbers(3)
	for range 3000 {
		data, l, _, e := chunks.Decode([]byte(anyContent(next)))
		if e != api.OK {
			continue
		}
		sizes, _ := chunks.Cut(len(data), 1+next(20))
		b, e := chunks.Encode(data, sizes, l)
		if e != api.OK {
			t.Fatalf("Encode(%s, %v, %s): %d", short(data), sizes, short(l), e)
		}
		checkDecode(t, string(b), string(data), l, len(b), api.OK)
	}
}

// inParts is the state to which bytes lead that are read in parts of at most some length, and how many are read, or the error of the part that ends it.
func inParts(t *testing.T, x api.ChState, s string, length func() int) (api.ChState, int, api.Errno) {
	t.Helper()
	used := 0
	for used < len(s) {
		part := s[used:min(used+length(), len(s))]
		y, n, e := chunks.Feed(x, []byte(part))
		if e != api.OK && (n != 0 || !same(x, y)) {
			t.Errorf("Feed(%s, %s): %s, %d, %d", short(x), short(part), short(y), n, e)
		}
		if e != api.OK {
			return y, used, e
		}
		checkCheck(t, y, api.OK)
		if n < len(part) && y.Phase != api.ChDone {
			t.Errorf("Feed(%s, %s): %s, %d, %d", short(x), short(part), short(y), n, e)
		}
		used += n
		x = y
		if n < len(part) {
			break
		}
	}
	return x, used, api.OK
}

// checkParts fails if bytes that are read in parts lead to something else than all at once.
func checkParts(t *testing.T, s string, length func() int) {
	t.Helper()
	want, used, e := chunks.Feed(chunks.Start(), []byte(s))
	x, n, got := inParts(t, chunks.Start(), s, length)
	if got != e || e == api.OK && (n != used || !same(x, want)) {
		t.Errorf("%s in parts: %s, %d, %d, want %s, %d, %d", short(s), short(x), n, got, short(want), used, e)
	}
}

func TestFeedInParts(t *testing.T) { // P8.6
	next := numbers(4)
	for range 5000 {
		s := anyBytes(next)
		checkParts(t, s, func() int { return 1 })
		most := 1 + next(30)
		checkParts(t, s, func() int { return 1 + next(most) })
	}
}

func TestFeedInTwoParts(t *testing.T) { // P8.6
	for _, s := range []string{"2;x=1\r\nab\r\n00\r\nA: 1\r\n\r\nrest", "1\r\na\r\n2\r\nbc\r\n0;\r\n\r\n", "1\r\na\r\n123456789", "0\r\na:\r\nhost: 1\r\n\r\n", "1\r\nab\r\n", "ffffffff\r\n"} {
		for i := 1; i <= len(s); i++ {
			n := 0
			checkParts(t, s, func() int { n += i; return n })
		}
	}
}

func TestFeedOfMuchInParts(t *testing.T) { // P8.6
	s := chunk(all65536[:40000]) + chunk(all65536[40000:]) + "0\r\n" + lines(long(8192)) + "x"
	for _, n := range []int{997, 8192, 50000, 1 << 20} {
		checkParts(t, s, func() int { return n })
	}
	for _, s := range []string{"0\r\n" + lines(long(8192)), "0\r\n" + lines(long(8193)), "0\r\n" + strings.Repeat("x", 8193), "0\r\n" + strings.ReplaceAll(lines(long(8192)), ": ", ":"), "1;" + strings.Repeat("x", 198) + "\r\n", "1;" + strings.Repeat("x", 199)} {
		checkParts(t, s, func() int { return 1 })
		checkParts(t, s, func() int { return 100 })
	}
}

func TestBeginningsOfContent(t *testing.T) { // P8.7
	next := numbers(5)
	for range 2000 {
		data, sizes, l := anyParts(next)
		b, _ := chunks.Encode([]byte(data), sizes, l)
		for i := range len(b) {
			checkDecode(t, string(b[:i]), "", nil, 0, api.ErrMore)
		}
	}
	for range 2000 {
		s := anyContent(next)
		_, _, used, e := chunks.Decode([]byte(s))
		if e != api.OK {
			continue
		}
		for i := range used {
			checkDecode(t, s[:i], "", nil, 0, api.ErrMore)
		}
	}
	s := chunk(all65536) + "0\r\n" + lines(long(8192))
	for i := 0; i < len(s); i += 911 {
		checkDecode(t, s[:i], "", nil, 0, api.ErrMore)
	}
	checkDecode(t, s[:len(s)-1], "", nil, 0, api.ErrMore)
	checkDecode(t, s, all65536, long(8192), len(s), api.OK)
}

func TestWhatIsAfterContent(t *testing.T) { // P8.7
	s := "1\r\na\r\n0\r\nb: c\r\n\r\n"
	for c := range 256 {
		b := string([]byte{byte(c)})
		for _, after := range []string{b, b + "\r\n", "\r\n" + b, strings.Repeat(b, 10000), strings.Repeat(b, 70000)} {
			checkDecode(t, s+after, "a", fields("b", "c"), len(s), api.OK)
			checkFeed(t, chunks.Start(), s+after, api.ChState{Phase: api.ChDone, Data: "a", Trailers: fields("b", "c")}, len(s), api.OK)
		}
	}
}

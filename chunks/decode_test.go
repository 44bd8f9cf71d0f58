package chunks_test

import (
	"fmt"
	"slices"
	"strings"
	"testing"

	"spillway/api"
	"spillway/chunks"
)

// checkDecode fails if Decode does not return these results.
func checkDecode(t *testing.T, b, data string, trailers []api.HdField, used int, e api.Errno) {
	t.Helper()
	d, l, n, got := chunks.Decode([]byte(b))
	if string(d) != data || !slices.Equal(l, trailers) || n != used || got != e {
		t.Errorf("Decode(%s): %s, %s, %d, %d, want %s, %s, %d, %d", short(b), short(d), short(l), n, got, short(data), short(trailers), used, e)
	}
}

// compareDecode fails if Decode does not return what the model does.
func compareDecode(t *testing.T, b string) {
	t.Helper()
	data, l, used, e := decode(b)
	checkDecode(t, b, data, l, used, e)
}

func TestDecodeOfExamples(t *testing.T) { // P8.3
	whole := "3\r\nhel\r\n2\r\nlo\r\n0\r\n\r\n"
	checkDecode(t, whole, "hello", nil, 20, api.OK)
	checkDecode(t, whole[:19], "", nil, 0, api.ErrMore)
	checkDecode(t, "2;x=1\r\nab\r\n00\r\nA: 1\r\n\r\n", "ab", fields("A", "1"), 23, api.OK)
	checkDecode(t, "2\n", "", nil, 0, api.ErrForm)
	checkDecode(t, "g", "", nil, 0, api.ErrForm)
	checkDecode(t, "123456789", "", nil, 0, api.ErrLong)
	checkDecode(t, "1\r\nab", "", nil, 0, api.ErrForm)
	checkDecode(t, "", "", nil, 0, api.ErrMore)
	checkDecode(t, "0\r\n\r\n", "", nil, 5, api.OK)
	checkDecode(t, "0\r\n\r\nx", "", nil, 5, api.OK)
	checkDecode(t, "0;\r\n\r\n", "", nil, 6, api.OK)
	checkDecode(t, "aF;\r\n"+strings.Repeat("\x00", 0xaf)+"\r\n000\r\nb:\t\r\nB: 2 \r\n\r\n", strings.Repeat("\x00", 0xaf), fields("b", "", "B", "2"), 201, api.OK)
}

func TestDecodeOfEachSize(t *testing.T) { // P8.3
	for n := range 300 {
		data := strings.Repeat("d", n)
		for _, form := range []string{"%x", "%X", "%03x", "%08X", "%x;", "%x;a=\"b\"", "%x; \t"} {
			s := fmt.Sprintf(form, n) + "\r\n" + data + "\r\n0\r\n\r\n"
			if n == 0 {
				s = fmt.Sprintf(form, n) + "\r\n\r\n"
			}
			checkDecode(t, s, data, nil, len(s), api.OK)
		}
	}
}

func TestDecodeOfMuchData(t *testing.T) { // P8.3
	for _, first := range []int{1, 2, 255, 32768, 65535} {
		a, b := all65536[:first], all65536[first:]
		s := chunk(a) + chunk(b) + "0\r\n\r\n"
		checkDecode(t, s, all65536, nil, len(s), api.OK)
		checkDecode(t, chunk(a)+chunk(b+"x"), "", nil, 0, api.ErrLong)
		checkDecode(t, chunk(a)+chunk(b)+chunk("x"), "", nil, 0, api.ErrLong)
		// The error is that of the line, before all bytes of the chunk.
		checkDecode(t, chunk(a)+fmt.Sprintf("%x\r\n", len(b)), "", nil, 0, api.ErrMore)
		checkDecode(t, chunk(a)+fmt.Sprintf("%x\r", len(b)+1), "", nil, 0, api.ErrMore)
		checkDecode(t, chunk(a)+fmt.Sprintf("%x\r\n", len(b)+1), "", nil, 0, api.ErrLong)
	}
	checkDecode(t, chunk(all65536)+"0\r\n\r\n", all65536, nil, 65536+14, api.OK)
	checkDecode(t, "10001\r\n", "", nil, 0, api.ErrLong)
	checkDecode(t, "ffffffff\r", "", nil, 0, api.ErrMore)
	checkDecode(t, "ffffffff\r\n", "", nil, 0, api.ErrLong)
	checkDecode(t, "80000000\r\n", "", nil, 0, api.ErrLong)
	ones := strings.Repeat(chunk("x"), 65536)
	checkDecode(t, ones+"0\r\n\r\n", all65536, nil, len(ones)+5, api.OK)
	checkDecode(t, ones+"1\r\n", "", nil, 0, api.ErrLong)
}

func TestDecodeOfAllShortContents(t *testing.T) { // P8.3
	each("02;\r\nx", 7, func(s string) { compareDecode(t, s) })
	for _, start := range []string{"1\r\n", "2\r\na", "1\r\na\r\n", "0\r\n", "1\r\na\r\n0\r\n", "0\r\na:\r\n", "0\r\nhost:1\r\n"} {
		each("01:\r\nx", 6, func(s string) { compareDecode(t, start+s) })
	}
}

func TestDecodeOfChangedContents(t *testing.T) { // P8.3
	for _, s := range []string{"3\r\nhel\r\n2\r\nlo\r\n0\r\n\r\n", "2;x=1\r\nab\r\n00\r\nA: 1\r\n\r\n", "1f;\r\n" + strings.Repeat("\r\n", 15) + "0\r\n1\r\n;\r\n0\r\nHos: 1\r\nb:2 \r\n\r\n0\r\n\r\n"} {
		for i := range len(s) {
			compareDecode(t, s[:i])
			compareDecode(t, s[:i]+s[i+1:])
			for c := range 256 {
				b := string([]byte{byte(c)})
				compareDecode(t, s[:i]+b+s[i+1:])
				compareDecode(t, s[:i]+b+s[i:])
			}
		}
	}
}

// anyContent is chunked content with chunks of many sizes, extensions and trailers.
func anyContent(next func(n int) int) string {
	s := ""
	for range next(5) {
		n := 1 + next(20)
		data := strings.Repeat("ab\r\n0;:", 4)[:n]
		s += fmt.Sprintf([]string{"%x", "%X", "%04x", "%08x"}[next(4)], n) + extension(next) + "\r\n" + data + "\r\n"
	}
	s += "00000000"[:1+next(8)] + extension(next) + "\r\n"
	for range next(4) {
		name := []string{"a", "Hosts", "x-y", "TE", "Age"}[next(5)]
		if next(20) == 0 {
			name = []string{"host", "Trailer", "CONNECTION", "content-length", "transfer-Encoding"}[next(5)]
		}
		s += name + ":" + []string{"", " ", "1", " 1", "\t2 3 "}[next(5)] + "\r\n"
	}
	return s + "\r\n"
}

// extension is an extension, or nothing.
func extension(next func(n int) int) string {
	switch next(10) {
	case 0, 1, 2:
		return ";" + "a=\"b;\tc\" "[:next(10)]
	case 3:
		return ";" + strings.Repeat("e", 185+next(20))
	}
	return ""
}

// anyBytes is chunked content that is often changed at a place, or not whole, or has bytes after it.
func anyBytes(next func(n int) int) string {
	s := anyContent(next)
	i := next(len(s))
	b := string([]byte{byte(next(256))})
	if next(2) == 0 {
		b = "01f;:\r\n x"[next(9):][:1]
	}
	switch next(6) {
	case 0:
		return s[:i] + b + s[i:]
	case 1:
		return s[:i] + b + s[i+1:]
	case 2:
		return s[:i] + s[i+1:]
	case 3:
		return s[:i]
	case 4:
		return s + b
	}
	return s
}

func TestDecodeOfManyContents(t *testing.T) { // P8.3
	next := numbers(1)
	for range 20000 {
		compareDecode(t, anyBytes(next))
	}
}

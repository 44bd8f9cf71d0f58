package headers_test

import (
	"slices"
	"strings"
	"testing"

	"spillway/api"
	"spillway/headers"
)

func checkPrint(t *testing.T, l []api.HdField, want string, e api.Errno) {
	t.Helper()
	if s, got := headers.Print(l); s != want || got != e {
		t.Errorf("Print %.200s: %.200q, %d, want %.200q, %d", text(l), s, got, want, e)
	}
}

func checkParse(t *testing.T, b string, want []api.HdField, used int, e api.Errno) {
	t.Helper()
	if l, n, got := headers.Parse([]byte(b)); !slices.Equal(l, want) || n != used || got != e {
		t.Errorf("Parse(%.200q of %d): %.200q, %d, %d, want %.200q, %d, %d", b, len(b), l, n, got, want, used, e)
	}
}

// checkParseAs fails if Parse does not return what parse does.
func checkParseAs(t *testing.T, b string) {
	t.Helper()
	want, used, e := parse([]byte(b))
	checkParse(t, b, want, used, e)
}

func TestPrintOfExamples(t *testing.T) { // P6.4
	checkPrint(t, nil, "\r\n", api.OK)
	checkPrint(t, fields("A", ""), "A: \r\n\r\n", api.OK)
	checkPrint(t, fields("b", "x\ty", "A", "\"", "B", "1, 2"), "b: x\ty\r\nA: \"\r\nB: 1, 2\r\n\r\n", api.OK)
	checkPrint(t, example(), "Host: a\r\nConnection: close, X-Hop\r\nx-hop: 1\r\nAccept: b\r\naccept: c\r\n\r\n", api.OK)
	checkPrint(t, long(8192), lines(long(8192)), api.OK)
	checkPrint(t, long(8193), "", api.ErrLong)
	checkPrint(t, fields("a", "b\r\n\r\n"), "", api.ErrForm)
	most := slices.Repeat(fields("a", "b"), 100)
	checkPrint(t, most, strings.Repeat("a: b\r\n", 100)+"\r\n", api.OK)
}

func TestParseOfLists(t *testing.T) { // P6.4
	for _, c := range []struct {
		b, rest string
		want    []api.HdField
	}{
		{"\r\n", "", nil},
		{"\r\n", "\n", nil},
		{"\r\n", "a: b\r\n\r\n", nil},
		{"A: b\r\n\r\n", "", fields("A", "b")},
		{"A: b\r\n\r\n", "x", fields("A", "b")},
		{"A: b\r\n\r\n", "\r\n", fields("A", "b")},
		{"A: b\r\n\r\n", strings.Repeat("x", 1<<20), fields("A", "b")},
		{"A:b\r\n\r\n", "", fields("A", "b")},
		{"A:\r\n\r\n", "", fields("A", "")},
		{"A: \t \r\n\r\n", "", fields("A", "")},
		{"A:\t b \t\r\n\r\n", "", fields("A", "b")},
		{"A: b\tc  d\r\n\r\n", "", fields("A", "b\tc  d")},
		{"A::b: c\r\n\r\n", "", fields("A", ":b: c")},
		{"!#$%&'*+-.^_`|~09azAZ: !~\"\\(),/\r\n\r\n", "", fields("!#$%&'*+-.^_`|~09azAZ", "!~\"\\(),/")},
		{"b: 1\r\na: 2\r\nB:3\r\na:2\r\n\r\n", "a: 4", fields("b", "1", "a", "2", "B", "3", "a", "2")},
		{strings.Repeat("n", 64) + ":" + strings.Repeat("v", 2000) + "\r\n\r\n", "", fields(strings.Repeat("n", 64), strings.Repeat("v", 2000))},
		{"a: \t" + strings.Repeat("v", 2000) + "\t \r\n\r\n", "", fields("a", strings.Repeat("v", 2000))},
		{strings.Repeat("a:b\r\n", 100) + "\r\n", "", slices.Repeat(fields("a", "b"), 100)},
	} {
		checkParse(t, c.b+c.rest, c.want, len(c.b), api.OK)
	}
}

func TestParseOfWrongForms(t *testing.T) { // P6.4
	for _, line := range []string{
		"\n", "a\n", "a: b\n", "a: b\r\r\n", "a: b\rc\r\n", "a\r: b\r\n", "\ra: b\r\n", "\r\r\n", "\r \n",
		":\r\n", ": b\r\n", "a\r\n", "a b\r\n", "a : b\r\n", "a\t:b\r\n", " a: b\r\n", "\ta: b\r\n", " c\r\n", " \r\n", "\t\r\n", "a b: c\r\n",
		"a\"b: c\r\n", "(a): b\r\n", "a/b: c\r\n", "é: b\r\n", "\xff: b\r\n", "a: é\r\n", "a: \xff\r\n", "a: \x00\r\n", "a: \x7f\r\n", "a: b\x1f\r\n", "a: b\x0b\r\n", "a:\x0c\r\n",
		strings.Repeat("n", 65) + ": b\r\n",
		strings.Repeat("n", 4000) + "\r\n",
		"a: " + strings.Repeat("v", 3000) + "\x00\r\n",
		"a: " + strings.Repeat("v", 3000) + "\n",
	} {
		for _, before := range []string{"", "x: y\r\n", strings.Repeat("x:\r\n", 100)} {
			for _, after := range []string{"", "\r\n", "x: y\r\n\r\n", strings.Repeat("x", 9000)} {
				checkParse(t, before+line+after, nil, 0, api.ErrForm)
			}
		}
	}
}

func TestParseOfEachByte(t *testing.T) { // P6.4
	for c := range 256 {
		b := string([]byte{byte(c)})
		for _, line := range []string{b + ":x", "x" + b + ":x", "x" + b + "y:x", "x" + b + "x", "x:" + b, "x:y" + b, "x: " + b + "y", "x:y" + b + "z"} {
			checkParseAs(t, line+"\r\n\r\n")
			checkParseAs(t, "a:b\r\n"+line+"\r\n\r\n"+b)
		}
		checkParseAs(t, b+"\n\r\n")
		checkParseAs(t, "\r"+b)
		checkParseAs(t, "a:b"+b+"\n\r\n")
		checkParseAs(t, "a:b\r"+b+"\r\n")
		checkParseAs(t, "a:b\r\n"+b+"\r\n")
		checkParseAs(t, "a:b\r\n\r"+b)
	}
}

func TestParseOfTooMuch(t *testing.T) { // P6.4
	much := "a: " + strings.Repeat("v", 2001) + "\r\n"
	checkParse(t, much, nil, 0, api.ErrLong)
	checkParse(t, much+"\r\n", nil, 0, api.ErrLong)
	checkParse(t, much+"b\r\n", nil, 0, api.ErrLong)
	checkParse(t, "b\r\n"+much, nil, 0, api.ErrForm)
	checkParse(t, much[:len(much)-1], nil, 0, api.ErrMore)
	most := strings.Repeat("a:b\r\n", 100)
	checkParse(t, most, nil, 0, api.ErrMore)
	checkParse(t, most+"a:b\r", nil, 0, api.ErrMore)
	checkParse(t, most+"a:b\r\n", nil, 0, api.ErrLong)
	checkParse(t, most+"a:b\r\n\r\n", nil, 0, api.ErrLong)
	checkParse(t, most+"a b\r\n", nil, 0, api.ErrForm)
	checkParse(t, most+"a:b\r\na b\r\n", nil, 0, api.ErrLong)
	checkParse(t, most+"\r\na:b\r\n", slices.Repeat(fields("a", "b"), 100), 502, api.OK)
}

func TestParseOfTooManyBytes(t *testing.T) { // P6.4
	spaces := func(n int) string { return "a:" + strings.Repeat(" ", n-4) + "\r\n" }
	checkParse(t, spaces(8190)+"\r\n", fields("a", ""), 8192, api.OK)
	checkParse(t, spaces(8190)+"\r\nx", fields("a", ""), 8192, api.OK)
	checkParse(t, spaces(8191)+"\r\n", nil, 0, api.ErrLong)
	checkParse(t, spaces(8191)+"\r", nil, 0, api.ErrMore)
	checkParse(t, spaces(8191)+"b", nil, 0, api.ErrMore)
	checkParse(t, spaces(8191)+"b\n", nil, 0, api.ErrLong)
	checkParse(t, spaces(8191)+"\n", nil, 0, api.ErrForm)
	checkParse(t, spaces(8192), nil, 0, api.ErrMore)
	checkParse(t, spaces(8192)+"\r", nil, 0, api.ErrLong)
	checkParse(t, spaces(8192)+"\n", nil, 0, api.ErrLong)
	checkParse(t, spaces(8192)+"\r\n", nil, 0, api.ErrLong)
	checkParse(t, spaces(8193), nil, 0, api.ErrLong)
	checkParse(t, spaces(8193)+"\r\n", nil, 0, api.ErrLong)
	for _, b := range []string{"x", "\r", "\x00", ":", " "} {
		checkParse(t, strings.Repeat(b, 8192), nil, 0, api.ErrMore)
		checkParse(t, strings.Repeat(b, 8193), nil, 0, api.ErrLong)
		checkParse(t, strings.Repeat(b, 8191)+"\n", nil, 0, api.ErrForm)
		checkParse(t, strings.Repeat(b, 8192)+"\n", nil, 0, api.ErrLong)
		checkParse(t, "a:b\n"+strings.Repeat(b, 9000), nil, 0, api.ErrForm)
		checkParse(t, "a:b\r\n"+strings.Repeat(b, 8187), nil, 0, api.ErrMore)
		checkParse(t, "a:b\r\n"+strings.Repeat(b, 8188), nil, 0, api.ErrLong)
		checkParse(t, "a:b\r\n"+strings.Repeat(b, 1<<20), nil, 0, api.ErrLong)
	}
	for n := 8180; n < 8205; n++ {
		for _, end := range []string{"", "\r", "\n", "\r\n", "\r\n\r", "x: y\r\n", "x y\r\n", "x\r\n\r\n"} {
			checkParseAs(t, spaces(n)+end)
			checkParseAs(t, lines(long(n))+end)
			checkParseAs(t, lines(long(n))[:n-2]+end)
		}
	}
}

func TestParseOfAllShortStrings(t *testing.T) { // P6.4
	each("a: \r\n", 7, func(s string) { checkParseAs(t, s) })
	each("a:\r\n\x00", 6, func(s string) { checkParseAs(t, s+"\r\n\r\n") })
	each("ab \t:", 5, func(s string) { checkParseAs(t, s+"\r\n\r\n") })
}

func TestParseOfChangedLists(t *testing.T) { // P6.4, P6.7
	next := numbers(2)
	some := []byte("\r\n\r\n: \tab-,\"\x00\xff")
	for range 20000 {
		b := []byte(lines(anyList(next)) + "x: y\r\n\r\n")
		for range 1 + next(3) {
			i, c := next(len(b)), some[next(len(some))]
			switch next(3) {
			case 0:
				b[i] = c
			case 1:
				b = slices.Delete(b, i, i+1)
			default:
				b = slices.Insert(b, i, c)
			}
		}
		checkParseAs(t, string(b))
		checkParsed(t, string(b))
	}
}

// anyList returns some list of fields.
func anyList(next func(n int) int) []api.HdField {
	names := []string{"a", "A", "b", "B-c", "b-C", "Host", "x-hop", "X-Hop", "Connection", "CONNECTION", "te", "Trailer", "set-cookie"}
	values := []string{"", "1", "b, c", "a b\tc", "x-hop", "B-c, A", "a;b=\"c,d\"", "close, \"a\", X-Hop"}
	var l []api.HdField
	for range next(7) {
		l = append(l, field(names[next(len(names))], values[next(len(values))]))
	}
	return l
}

// checkParsed fails if what Parse returns is no list of fields, but for the bytes of its lines.
func checkParsed(t *testing.T, b string) {
	t.Helper()
	l, used, e := headers.Parse([]byte(b))
	if e != api.OK {
		return
	}
	for _, f := range l {
		checkCheck(t, []api.HdField{f}, api.OK)
	}
	if len(l) > 100 || used > 8192 {
		t.Errorf("Parse(%.200q): %d fields, %d bytes", b, len(l), used)
	}
}

func TestParsedLinesMayBeLonger(t *testing.T) { // P6.4, P6.7
	line := "a:" + strings.Repeat("v", 77) + "\r\n" // 81 bytes, and one more when it is printed
	checkParsed(t, strings.Repeat(line, 100)+"\r\n")
	l, used, e := headers.Parse([]byte(strings.Repeat(line, 100) + "\r\n"))
	if len(l) != 100 || used != 8102 || e != api.OK {
		t.Fatalf("%d fields, %d bytes, %d", len(l), used, e)
	}
	checkPrint(t, l, "", api.ErrLong)
	checkCheck(t, l, api.ErrLong)
	checkCheck(t, l[:99], api.OK)
}

func TestParseOfPrint(t *testing.T) { // P6.7
	next := numbers(3)
	lists := [][]api.HdField{nil, example(), long(1000), long(8191), long(8192), slices.Repeat(fields("a", ""), 100), slices.Repeat(fields("names", strings.Repeat("v", 72)), 100)}
	for range 500 {
		lists = append(lists, anyList(next))
	}
	for _, l := range lists {
		s, e := headers.Print(l)
		if e != api.OK {
			t.Fatalf("Print %.200s: %d", text(l), e)
		}
		for _, rest := range []string{"", "x", "\n", "\r\n", "\x00", s, strings.Repeat("y", 9000)} {
			checkParse(t, s+rest, l, len(s), api.OK)
		}
		for i := range len(s) {
			if _, _, e := headers.Parse([]byte(s[:i])); e != api.ErrMore {
				t.Errorf("Parse(%.200q): %d", s[:i], e)
			}
		}
	}
}

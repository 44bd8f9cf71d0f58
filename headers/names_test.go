package headers_test

import (
	"slices"
	"strings"
	"testing"

	"spillway/api"
	"spillway/headers"
)

func checkHop(t *testing.T, l []api.HdField, want []string, e api.Errno) {
	t.Helper()
	if v, got := headers.Hop(l); !slices.Equal(v, want) || got != e {
		t.Errorf("Hop %.200s: %q, %d, want %q, %d", text(l), v, got, want, e)
	}
}

func checkStrip(t *testing.T, l []api.HdField, want []api.HdField, e api.Errno) {
	t.Helper()
	x, got := headers.Strip(l)
	checkList(t, "Strip "+text(l), x, got, want, e)
}

func checkSame(t *testing.T, a, b []api.HdField, want bool, e api.Errno) {
	t.Helper()
	if is, got := headers.Same(a, b); is != want || got != e {
		t.Errorf("Same %.200s and %.200s: %v, %d, want %v, %d", text(a), text(b), is, got, want, e)
	}
}

func TestHopOfExamples(t *testing.T) { // P6.5
	checkHop(t, example(), []string{"connection", "x-hop"}, api.OK)
	checkStrip(t, example(), fields("Host", "a", "Accept", "b", "accept", "c"), api.OK)
	checkHop(t, nil, nil, api.OK)
	checkStrip(t, nil, nil, api.OK)
	plain := fields("Host", "a", "b", "1", "B", "2")
	checkHop(t, plain, nil, api.OK)
	checkStrip(t, plain, plain, api.OK)
}

func TestHopOfFixedNames(t *testing.T) { // P6.5
	for _, name := range []string{"connection", "keep-alive", "proxy-connection", "te", "trailer", "transfer-encoding", "upgrade"} {
		for _, n := range []string{name, strings.ToUpper(name), strings.ToUpper(name[:1]) + name[1:]} {
			l := fields("a", "1", n, "x", "b", "2", name, "y")
			checkHop(t, l, []string{name}, api.OK)
			checkStrip(t, l, fields("a", "1", "b", "2"), api.OK)
		}
		near := fields(name+"s", "1", name[1:], "2", "x-"+name, "3")
		checkHop(t, near, nil, api.OK)
		checkStrip(t, near, near, api.OK)
	}
	for _, name := range []string{"host", "content-length", "via", "proxy-authenticate", "proxy-authorization", "close", "cookie"} {
		checkHop(t, fields(name, "x"), nil, api.OK)
		checkStrip(t, fields(name, "x"), fields(name, "x"), api.OK)
	}
	all := fields("Upgrade", "", "TE", "", "a", "", "Trailer", "", "te", "", "Keep-Alive", "", "Transfer-Encoding", "", "Proxy-Connection", "", "Connection", "")
	checkHop(t, all, []string{"connection", "keep-alive", "proxy-connection", "te", "trailer", "transfer-encoding", "upgrade"}, api.OK)
	checkStrip(t, all, fields("a", ""), api.OK)
}

func TestHopOfNamedFields(t *testing.T) { // P6.5
	for _, c := range []struct {
		value string
		hop   string // names of fields a, b, c, close, and one of 64 bytes
	}{
		{"", ""},
		{",", ""},
		{"a", "a"},
		{"A", "a"},
		{"b,a", "a b"},
		{"a, a,A", "a"},
		{"none", ""},
		{"close", "close"},
		{"\"a\", b", "b"},
		{"\"a,b\",c", "c"},
		{"a b, c", "c"},
		{"a;q=1, c", "c"},
		{"a/b,c/d", ""},
		{",,a\t, ,\t b,", "a b"},
		{strings.Repeat("n", 64), strings.Repeat("n", 64)},
		{strings.Repeat("N", 64) + ",a", "a " + strings.Repeat("n", 64)},
		{strings.Repeat("n", 65), ""},
		{strings.Repeat("x,", 998) + "a", "a"},
	} {
		rest := fields("C", "1", "a", "2", "B", "3", "A", "4", "Close", "5", strings.Repeat("n", 64), "6")
		for place := range len(rest) + 1 {
			l := slices.Insert(slices.Clone(rest), place, field("ConnecTion", c.value))
			want := strings.Fields(c.hop + " connection")
			slices.Sort(want)
			checkHop(t, l, want, api.OK)
			checkStrip(t, l, slices.DeleteFunc(slices.Clone(l), func(f api.HdField) bool { return slices.Contains(want, strings.ToLower(f.Name)) }), api.OK)
		}
	}
	several := fields("a", "1", "Connection", "b", "b", "2", "c", "3", "CONNECTION", "\"c\", A", "d", "4", "connection", "")
	checkHop(t, several, []string{"a", "b", "connection"}, api.OK)
	checkStrip(t, several, fields("c", "3", "d", "4"), api.OK)
	// Only the values of connection name other fields.
	others := fields("Keep-Alive", "a", "Proxy-Connection", "a", "Upgrade", "a", "x-connection", "a", "a", "1")
	checkHop(t, others, []string{"keep-alive", "proxy-connection", "upgrade"}, api.OK)
	checkStrip(t, others, fields("x-connection", "a", "a", "1"), api.OK)
	// A name that is named by a field that is named itself counts as any other one.
	self := fields("Connection", "Connection, te, a", "a", "b", "b", "1")
	checkHop(t, self, []string{"a", "connection"}, api.OK)
	checkStrip(t, self, fields("b", "1"), api.OK)
}

func TestHopOfWrongValues(t *testing.T) { // P6.5
	for _, v := range []string{`"`, `a,"b`, `"a\"`, `"a"b"`, `a"`, `"\`} {
		for _, l := range [][]api.HdField{fields("Connection", v), fields("connection", "a", "a", "1", "CONNECTION", v), fields("connection", v, "connection", "a")} {
			checkHop(t, l, nil, api.ErrForm)
			checkStrip(t, l, nil, api.ErrForm)
		}
		l := fields("Keep-Alive", v, "a", v)
		checkHop(t, l, []string{"keep-alive"}, api.OK)
		checkStrip(t, l, fields("a", v), api.OK)
	}
	checkHop(t, fields("Connection", strings.Repeat("a", 1999)+`"`), nil, api.ErrForm)
	checkHop(t, fields("Connection", strings.Repeat("a", 2000)), []string{"connection"}, api.OK)
}

func TestHopOfAllShortLists(t *testing.T) { // P6.5
	some := fields("a", "1", "B", "a", "b", "", "Connection", "A, c", "connection", "b", "CONNECTION", "\"a\",te", "TE", "b", "c", "\"", "connection", "\"")
	eachList(some, 4, func(l []api.HdField) {
		v, e := hop(l)
		checkHop(t, l, v, e)
		x, e := strip(l)
		checkStrip(t, l, x, e)
	})
}

func TestHopOfAllShortValues(t *testing.T) { // P6.5
	each("aB,\" \t;", 5, func(v string) {
		l := fields("b", "1", "A", "2", "connection", v, "aB", "3", "c", "4", "Ba", "5")
		names, e := hop(l)
		checkHop(t, l, names, e)
		x, e := strip(l)
		checkStrip(t, l, x, e)
	})
}

func TestSameOfExamples(t *testing.T) { // P6.6
	checkSame(t, nil, nil, true, api.OK)
	checkSame(t, nil, []api.HdField{}, true, api.OK)
	checkSame(t, example(), example(), true, api.OK)
	checkSame(t, example(), example()[:4], false, api.OK)
	checkSame(t, example()[:4], example(), false, api.OK)
	checkSame(t, nil, fields("a", ""), false, api.OK)
	checkSame(t, fields("a", ""), nil, false, api.OK)
	checkSame(t, fields("a", "1", "b", "2"), fields("B", "2", "A", "1"), true, api.OK)
	checkSame(t, fields("a", "1", "a", "2"), fields("a", "2", "a", "1"), false, api.OK)
	checkSame(t, fields("a", "1", "A", "2"), fields("A", "1", "a", "2"), true, api.OK)
	checkSame(t, fields("a", "1", "b", "x", "a", "2"), fields("a", "1", "a", "2", "b", "x"), true, api.OK)
	checkSame(t, fields("a", "1"), fields("a", "1", "a", "1"), false, api.OK)
	checkSame(t, fields("a", "1", "a", "2"), fields("a", "1, 2"), false, api.OK)
	checkSame(t, fields("a", "b"), fields("a", "B"), false, api.OK)
	checkSame(t, fields("a", "1", "b", "2"), fields("a", "2", "b", "1"), false, api.OK)
	most := slices.Repeat(fields("a", "1", "b", "2"), 50)
	checkSame(t, most, append(slices.Repeat(fields("B", "2"), 50), slices.Repeat(fields("A", "1"), 50)...), true, api.OK)
}

func TestSameOfAllShortLists(t *testing.T) { // P6.6
	var all [][]api.HdField
	eachList(fields("a", "1", "A", "2", "a", "2", "b", "1", "B", "2"), 3, func(l []api.HdField) { all = append(all, l) })
	for _, a := range all {
		for _, b := range all {
			want, e := sameFields(a, b)
			checkSame(t, a, b, want, e)
		}
	}
}

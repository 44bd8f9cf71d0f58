package headers_test

import (
	"slices"
	"strings"
	"testing"

	"spillway/api"
	"spillway/headers"
)

// checkList fails if a list and an error are not want and e.
func checkList(t *testing.T, what string, l []api.HdField, got api.Errno, want []api.HdField, e api.Errno) {
	t.Helper()
	if !slices.Equal(l, want) || got != e {
		t.Errorf("%.200s: %.200q, %d, want %.200q, %d", what, l, got, want, e)
	}
}

// text is a list as a text for messages.
func text(l []api.HdField) string { return "of " + strings.ReplaceAll(lines(l), "\r\n", "; ") }

func checkGet(t *testing.T, l []api.HdField, name string, want []string, e api.Errno) {
	t.Helper()
	if v, got := headers.Get(l, name); !slices.Equal(v, want) || got != e {
		t.Errorf("Get %.80q %.200s: %.80q, %d, want %.80q, %d", name, text(l), v, got, want, e)
	}
}

func checkCombined(t *testing.T, l []api.HdField, name, want string, e api.Errno) {
	t.Helper()
	if s, got := headers.Combined(l, name); s != want || got != e {
		t.Errorf("Combined %.80q %.200s: %.80q, %d, want %.80q, %d", name, text(l), s, got, want, e)
	}
}

func checkAdd(t *testing.T, l []api.HdField, f api.HdField, want []api.HdField, e api.Errno) {
	t.Helper()
	x, got := headers.Add(l, f)
	checkList(t, "Add "+text([]api.HdField{f})+text(l), x, got, want, e)
}

func checkSet(t *testing.T, l []api.HdField, f api.HdField, want []api.HdField, e api.Errno) {
	t.Helper()
	x, got := headers.Set(l, f)
	checkList(t, "Set "+text([]api.HdField{f})+text(l), x, got, want, e)
}

func checkDel(t *testing.T, l []api.HdField, name string, want []api.HdField, e api.Errno) {
	t.Helper()
	x, got := headers.Del(l, name)
	checkList(t, "Del "+name+" "+text(l), x, got, want, e)
}

func TestGetOfExamples(t *testing.T) { // P6.2
	checkGet(t, example(), "ACCEPT", []string{"b", "c"}, api.OK)
	checkGet(t, example(), "accept", []string{"b", "c"}, api.OK)
	checkGet(t, example(), "X-Hop", []string{"1"}, api.OK)
	checkGet(t, example(), "none", nil, api.OK)
	checkGet(t, example(), "accep", nil, api.OK)
	checkGet(t, example(), "accept-", nil, api.OK)
	checkGet(t, nil, "a", nil, api.OK)
	checkGet(t, fields("a", "", "b", "x", "A", "", "a", "y"), "a", []string{"", "", "y"}, api.OK)
	checkGet(t, fields("a", "2, 1", "A", "1"), "a", []string{"2, 1", "1"}, api.OK)
	checkGet(t, fields("^", "1", "~", "2", "`", "3"), "~", []string{"2"}, api.OK)
	checkGet(t, slices.Repeat(fields("a", "b"), 100), "A", slices.Repeat([]string{"b"}, 100), api.OK)
}

func TestDelOfExamples(t *testing.T) { // P6.2
	checkDel(t, example(), "accept", example()[:3], api.OK)
	checkDel(t, example(), "HOST", example()[1:], api.OK)
	checkDel(t, example(), "none", example(), api.OK)
	checkDel(t, fields("a", "1", "b", "2", "A", "3"), "A", fields("b", "2"), api.OK)
	checkDel(t, fields("a", "1", "A", "3"), "a", nil, api.OK)
	checkDel(t, nil, "a", nil, api.OK)
}

func TestNamesThatAreNoTokens(t *testing.T) { // P6.2, P6.3
	for _, name := range []string{"", " ", "a b", "accept ", "accept:", "\xff", "é", strings.Repeat("a", 65)} {
		for _, l := range [][]api.HdField{nil, example(), fields("Set-Cookie", "a")} {
			checkGet(t, l, name, nil, api.ErrArg)
			checkDel(t, l, name, nil, api.ErrArg)
			checkCombined(t, l, name, "", api.ErrArg)
		}
	}
}

func TestAddOfExamples(t *testing.T) { // P6.2
	checkAdd(t, nil, field("A", "b"), fields("A", "b"), api.OK)
	checkAdd(t, example(), field("HOST", "z"), append(example(), field("HOST", "z")), api.OK)
	checkAdd(t, example(), field("host", ""), append(example(), field("host", "")), api.OK)
	checkAdd(t, example(), field("host", "a"), append(example(), field("host", "a")), api.OK)
	most := slices.Repeat(fields("a", "b"), 99)
	checkAdd(t, most, field("a", "c"), append(slices.Clone(most), field("a", "c")), api.OK)
}

func TestSetOfExamples(t *testing.T) { // P6.2
	checkSet(t, nil, field("A", "b"), fields("A", "b"), api.OK)
	checkSet(t, example(), field("Accept", "d"), append(example()[:3], field("Accept", "d")), api.OK)
	checkSet(t, example(), field("HOST", "z"), append(fields("HOST", "z"), example()[1:]...), api.OK)
	checkSet(t, example(), field("new", "z"), append(example(), field("new", "z")), api.OK)
	checkSet(t, fields("b", "1", "a", "2", "c", "3", "A", "4", "d", "5", "a", "6"), field("a", ""), fields("b", "1", "a", "", "c", "3", "d", "5"), api.OK)
	checkSet(t, fields("a", "1", "b", "2", "a", "3"), field("A", "4"), fields("A", "4", "b", "2"), api.OK)
	checkSet(t, fields("b", "1", "a", "2"), field("a", "3"), fields("b", "1", "a", "3"), api.OK)
	most := slices.Repeat(fields("a", "b"), 100)
	checkSet(t, most, field("A", "c"), fields("A", "c"), api.OK)
}

func TestErrorsOfChangedLists(t *testing.T) { // P6.2
	much := strings.Repeat("v", 2001)
	for _, f := range fields("a b", "x", "", "x", "a", " x", "a", "x\t", "a", "x\n", "host", "\xff", "a b", much, "a", much+"\n", strings.Repeat("n", 65), "x") {
		checkAdd(t, nil, f, nil, api.ErrForm)
		checkSet(t, nil, f, nil, api.ErrForm)
		checkAdd(t, example(), f, nil, api.ErrForm)
		checkSet(t, example(), f, nil, api.ErrForm)
	}
	checkAdd(t, example(), field("host", much), nil, api.ErrLong)
	checkSet(t, example(), field("host", much), nil, api.ErrLong)
	most := slices.Repeat(fields("a", "b"), 100)
	checkAdd(t, most, field("a", "b"), nil, api.ErrLong)
	checkSet(t, most, field("b", "b"), nil, api.ErrLong)
	// The number of fields comes before the form of the last one.
	checkAdd(t, most, field("a b", " "), nil, api.ErrLong)
	checkSet(t, most, field("a b", " "), nil, api.ErrLong)
	checkSet(t, most, field("a", " "), nil, api.ErrForm)
}

func TestBytesOfChangedLists(t *testing.T) { // P6.2
	for n := 8180; n <= 8192; n++ {
		for _, f := range fields("b", "", "rest", "", "rest", strings.Repeat("x", n-7000), "Long", strings.Repeat("x", 1990)) {
			want, e := add(long(n), f)
			checkAdd(t, long(n), f, want, e)
			want, e = set(long(n), f)
			checkSet(t, long(n), f, want, e)
		}
	}
	checkAdd(t, long(8187), field("b", ""), append(long(8187), field("b", "")), api.OK)
	checkAdd(t, long(8188), field("b", ""), nil, api.ErrLong)
	checkSet(t, long(8187), field("b", ""), append(long(8187), field("b", "")), api.OK)
	checkSet(t, long(8188), field("b", ""), nil, api.ErrLong)
	l := append(long(8192-7), field("a", "bc"))
	checkSet(t, l[:len(l):len(l)], field("A", "bc"), append(long(8192-7), field("A", "bc")), api.OK)
	checkSet(t, l, field("a", "bcd"), nil, api.ErrLong)
}

func TestCombinedOfExamples(t *testing.T) { // P6.3
	checkCombined(t, example(), "ACCEPT", "b, c", api.OK)
	checkCombined(t, example(), "host", "a", api.OK)
	checkCombined(t, example(), "connection", "close, X-Hop", api.OK)
	checkCombined(t, example(), "none", "", api.ErrNone)
	checkCombined(t, nil, "a", "", api.ErrNone)
	checkCombined(t, fields("a", ""), "a", "", api.OK)
	checkCombined(t, fields("a", "", "b", "x", "A", ""), "a", ", ", api.OK)
	checkCombined(t, fields("a", "1,2", "a", "", "A", "\"", "a", "1,2"), "a", "1,2, , \", 1,2", api.OK)
}

func TestCombinedOfCookies(t *testing.T) { // P6.3
	for _, name := range []string{"set-cookie", "Set-Cookie", "SET-COOKIE"} {
		checkCombined(t, fields("sET-cOOKIE", "a"), name, "", api.ErrDown)
		checkCombined(t, fields("set-cookie", "a", "Set-Cookie", "b"), name, "", api.ErrDown)
		checkCombined(t, fields("set-cookie", strings.Repeat("a", 1500), "set-cookie", strings.Repeat("b", 1500)), name, "", api.ErrDown)
		checkCombined(t, fields("cookie", "a"), name, "", api.ErrNone)
		checkCombined(t, nil, name, "", api.ErrNone)
	}
	checkCombined(t, fields("Cookie", "a", "cookie", "b", "set-cookie", "c", "set-cookie2", "d"), "cookie", "a, b", api.OK)
	checkCombined(t, fields("set-cookie2", "d"), "set-cookie2", "d", api.OK)
}

func TestCombinedOfTooMuch(t *testing.T) { // P6.3
	half := strings.Repeat("v", 999)
	checkCombined(t, fields("a", half, "A", half), "a", half+", "+half, api.OK)
	checkCombined(t, fields("a", half, "A", half+"w"), "a", "", api.ErrLong)
	checkCombined(t, fields("a", half+"w", "A", half), "a", "", api.ErrLong)
	checkCombined(t, fields("a", half+half+"ww"), "a", half+half+"ww", api.OK)
	checkCombined(t, fields("a", half+half+"ww", "a", ""), "a", "", api.ErrLong)
	checkCombined(t, fields("a", half+half, "a", ""), "a", half+half+", ", api.OK)
	checkCombined(t, fields("a", half, "b", half+half, "A", half), "a", half+", "+half, api.OK)
}

func TestChangesOfAllShortLists(t *testing.T) { // P6.2, P6.3
	some := fields("a", "1", "A", "", "b", "2", "Set-Cookie", "3", "ab", "4")
	others := append(slices.Clone(some), fields("B", "5", "SET-cookie", "", "c", "6", "a ", "7", "a", "8 ", "", "")...)
	eachList(some, 4, func(l []api.HdField) {
		for _, f := range others {
			v, e := get(l, f.Name)
			checkGet(t, l, f.Name, v, e)
			s, e := combined(l, f.Name)
			checkCombined(t, l, f.Name, s, e)
			x, e := del(l, f.Name)
			checkDel(t, l, f.Name, x, e)
			x, e = add(l, f)
			checkAdd(t, l, f, x, e)
			x, e = set(l, f)
			checkSet(t, l, f, x, e)
		}
	})
}

func TestNamesOfEachTwoBytes(t *testing.T) { // P6.2, P6.3, P6.6
	for a := range 256 {
		for b := range 256 {
			l, name := fields("x"+string([]byte{byte(a)}), "1"), "X"+string([]byte{byte(b)})
			v, e := get(l, name)
			checkGet(t, l, name, v, e)
			s, e := combined(l, name)
			checkCombined(t, l, name, s, e)
			x, e := del(l, name)
			checkDel(t, l, name, x, e)
			x, e = set(l, field(name, "2"))
			checkSet(t, l, field(name, "2"), x, e)
			is, e := sameFields(l, fields(name, "1"))
			checkSame(t, l, fields(name, "1"), is, e)
		}
	}
}

package headers_test

import (
	"slices"
	"strings"
	"testing"

	"spillway/api"
	"spillway/headers"
)

// checkCheck fails if Check does not return e.
func checkCheck(t *testing.T, l []api.HdField, e api.Errno) {
	t.Helper()
	if got := headers.Check(l); got != e {
		t.Errorf("Check(%.80q of %d): %d, want %d", l, len(l), got, e)
	}
}

// checkCanon fails if Canon does not return want and e.
func checkCanon(t *testing.T, name, want string, e api.Errno) {
	t.Helper()
	if s, got := headers.Canon(name); s != want || got != e {
		t.Errorf("Canon(%.80q): %q, %d, want %q, %d", name, s, got, want, e)
	}
}

func TestCheckOfLists(t *testing.T) { // P6.1
	for _, l := range [][]api.HdField{
		nil,
		{},
		example(),
		fields("a", ""),
		fields("a", "\"", "A", "x", "a", ","),
		fields("!#$%&'*+-.^_`|~09azAZ", "!~"),
		fields(strings.Repeat("n", 64), strings.Repeat("v", 2000)),
		fields("a", "x"+strings.Repeat(" ", 1998)+"x"),
		slices.Repeat(fields("a", "b"), 100),
	} {
		checkCheck(t, l, api.OK)
	}
}

func TestCheckOfWrongForms(t *testing.T) { // P6.1
	for _, f := range fields(
		"", "x", "a b", "x", "a:", "x", " a", "x", "a\n", "x", "é", "x", strings.Repeat("n", 65), "x",
		"a", " ", "a", "\t", "a", " x", "a", "x ", "a", "\tx", "a", "x\t", "a", "x\ry", "a", "x\ny", "a", "\x00", "a", "\x7f", "a", "é", "a", "\xff",
		"a b", strings.Repeat("v", 2001),
		"a", strings.Repeat("v", 2001)+"\n",
		"a", strings.Repeat("v", 2001)+" ",
		"a", " "+strings.Repeat("v", 2001),
		"a", strings.Repeat(" ", 2001),
	) {
		checkCheck(t, []api.HdField{f}, api.ErrForm)
		checkCheck(t, append(example(), f), api.ErrForm)
	}
}

func TestCheckOfEachByte(t *testing.T) { // P6.1
	for c := range 256 {
		b := string([]byte{byte(c)})
		for _, s := range []string{b, b + "x", "x" + b, "x" + b + "x"} {
			for _, l := range [][]api.HdField{fields(s, "x"), fields("x", s), fields("x", s+"\t"), fields(s, s)} {
				checkCheck(t, l, check(l))
			}
		}
	}
}

func TestCheckOfTooMuch(t *testing.T) { // P6.1
	checkCheck(t, fields("a", strings.Repeat("v", 2001)), api.ErrLong)
	checkCheck(t, slices.Repeat(fields("a", "b"), 101), api.ErrLong)
	checkCheck(t, make([]api.HdField, 101), api.ErrLong)
	checkCheck(t, make([]api.HdField, 100), api.ErrForm)
	checkCheck(t, long(8192), api.OK)
	checkCheck(t, long(8193), api.ErrLong)
	for n := 8180; n < 8210; n++ {
		if got := len(lines(long(n))); got != n {
			t.Fatalf("long(%d) has %d bytes", n, got)
		}
		checkCheck(t, long(n), check(long(n)))
	}
	most := slices.Repeat(fields("names", strings.Repeat("v", 72)), 100) // 81 bytes each, 8102 in all
	checkCheck(t, most, api.OK)
	most[0].Value += strings.Repeat("w", 90)
	checkCheck(t, most, api.OK)
	most[99].Name += "s"
	checkCheck(t, most, api.ErrLong)
}

func TestCheckOfTheFirstError(t *testing.T) { // P6.1
	form, much := field("a b", "c"), field("a", strings.Repeat("v", 2001))
	checkCheck(t, []api.HdField{form, much}, api.ErrForm)
	checkCheck(t, []api.HdField{much, form}, api.ErrLong)
	checkCheck(t, append(long(9000), form), api.ErrForm)
	checkCheck(t, append(long(9000), much), api.ErrLong)
	checkCheck(t, append(slices.Repeat(fields("a", "b"), 100), form), api.ErrLong)
	checkCheck(t, append([]api.HdField{form}, slices.Repeat(fields("a", "b"), 100)...), api.ErrLong)
}

func TestErrorsOfListsComeFirst(t *testing.T) { // P6.1
	for _, l := range [][]api.HdField{
		fields("a b", "c"),
		fields("a", "c "),
		fields("a", strings.Repeat("v", 2001)),
		fields("Connection", "\"", "a", "\r"),
		append(long(9000), field("Connection", "\"")),
		slices.Repeat(fields("a", "b"), 101),
	} {
		for _, name := range []string{"a", "a b", "", "none", "set-cookie"} {
			checkGet(t, l, name, nil, check(l))
			checkDel(t, l, name, nil, check(l))
			checkCombined(t, l, name, "", check(l))
			checkAdd(t, l, field(name, "\n"), nil, check(l))
			checkSet(t, l, field(name, "\n"), nil, check(l))
			checkSet(t, l, field(name, "x"), nil, check(l))
		}
		checkPrint(t, l, "", check(l))
		checkHop(t, l, nil, check(l))
		checkStrip(t, l, nil, check(l))
		checkSame(t, l, nil, false, check(l))
		checkSame(t, nil, l, false, check(l))
		checkSame(t, l, l, false, check(l))
	}
	// Set would take these out.
	checkSet(t, fields("a", " b"), field("a", "b"), nil, api.ErrForm)
	checkSet(t, slices.Repeat(fields("a", "b"), 101), field("a", "b"), nil, api.ErrLong)
	checkSet(t, long(9000), field("long", "b"), nil, api.ErrLong)
	form, much := fields("a b", "c"), fields("a", strings.Repeat("v", 2001))
	checkSame(t, form, much, false, api.ErrForm)
	checkSame(t, much, form, false, api.ErrLong)
}

func TestCanonOfExamples(t *testing.T) { // P6.1
	for name, want := range map[string]string{
		"x-HOP":                   "X-Hop",
		"a--b":                    "A--B",
		"HOST":                    "Host",
		"host":                    "Host",
		"www-authenticate":        "Www-Authenticate",
		"-":                       "-",
		"-a-":                     "-A-",
		"z-Z-zZ":                  "Z-Z-Zz",
		"1a-b_c":                  "1a-B_c",
		"a_b.c!d-1e":              "A_b.c!d-1e",
		"a.B+C~D^E":               "A.b+c~d^e",
		"`-`":                     "`-`",
		"M":                       "M",
		strings.Repeat("aB", 32):  "A" + strings.Repeat("ba", 31) + "b",
		strings.Repeat("-a", 32):  strings.Repeat("-A", 32),
		"!#$%&'*+-.^_`|~":         "!#$%&'*+-.^_`|~",
		"abcdefghijklmnopqrstuvw": "Abcdefghijklmnopqrstuvw",
		"XYZ-XYZ":                 "Xyz-Xyz",
	} {
		checkCanon(t, name, want, api.OK)
	}
	for _, name := range []string{"", "a b", "a:", " a", "é", "\xff", strings.Repeat("a", 65), strings.Repeat("-", 1<<20)} {
		checkCanon(t, name, "", api.ErrForm)
	}
}

// canon is what Canon should return, part by part.
func canon(name string) (string, api.Errno) {
	if !tokenLike.MatchString(name) {
		return "", api.ErrForm
	}
	parts := strings.Split(strings.ToLower(name), "-")
	for i, s := range parts {
		if s != "" {
			parts[i] = strings.ToUpper(s[:1]) + s[1:]
		}
	}
	return strings.Join(parts, "-"), api.OK
}

func TestCanonOfAllShortNames(t *testing.T) { // P6.1
	compare := func(name string) {
		want, e := canon(name)
		checkCanon(t, name, want, e)
	}
	each("aZ-1 _", 6, compare)
	for a := range 256 {
		for b := range 256 {
			compare(string([]byte{byte(a), byte(b)}))
			compare(string([]byte{'x', byte(a), byte(b)}))
		}
	}
}

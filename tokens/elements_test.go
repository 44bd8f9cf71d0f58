package tokens_test

import (
	"slices"
	"strings"
	"testing"

	"spillway/api"
	"spillway/tokens"
)

// checkElements fails if Elements does not return want and e.
func checkElements(t *testing.T, v string, want []string, e api.Errno) {
	t.Helper()
	if l, got := tokens.Elements(v); !slices.Equal(l, want) || got != e {
		t.Errorf("Elements(%.60q): %.60q, %d, want %.60q, %d", v, l, got, want, e)
	}
}

// checkHas fails if Has does not return want and e.
func checkHas(t *testing.T, v, token string, want bool, e api.Errno) {
	t.Helper()
	if is, got := tokens.Has(v, token); is != want || got != e {
		t.Errorf("Has(%.60q, %q): %v, %d, want %v, %d", v, token, is, got, want, e)
	}
}

func TestElementsOfExamples(t *testing.T) { // P5.3, P5.8
	for v, want := range map[string][]string{
		``:                                    nil,
		`,`:                                   nil,
		" ,\t, ,,":                            nil,
		`a, ,"b,c" ,, d`:                      {`a`, `"b,c"`, `d`},
		"\t a \t":                             {`a`},
		`a b`:                                 {`a b`},
		"a\tb , c":                            {"a\tb", `c`},
		`a"b,c"d,e`:                           {`a"b,c"d`, `e`},
		`"a\",b",c`:                           {`"a\",b"`, `c`},
		`"a\\",b`:                             {`"a\\"`, `b`},
		`a\,b`:                                {`a\`, `b`},
		`a\"b,c"`:                             {`a\"b,c"`},
		`\\"b,c",d`:                           {`\\"b,c"`, `d`},
		`"","",a`:                             {`""`, `""`, `a`},
		`" a "," ,"`:                          {`" a "`, `" ,"`},
		`a;b=",",c/d=(e)`:                     {`a;b=","`, `c/d=(e)`},
		strings.Repeat("a", 2000):             {strings.Repeat("a", 2000)},
		strings.Repeat("a,", 1000):            slices.Repeat([]string{"a"}, 1000),
		strings.Repeat(" ", 1999) + `a`:       {"a"},
		`"` + strings.Repeat(",", 1998) + `"`: {`"` + strings.Repeat(",", 1998) + `"`},
	} {
		checkElements(t, v, want, api.OK)
	}
}

func TestElementsOfEachByte(t *testing.T) { // P5.3
	for c := range 256 {
		b := string([]byte{byte(c)})
		for _, v := range []string{b, "a" + b, b + "a", "a" + b + "c", `"` + b + `"`, `"\` + b + `"`, "a, " + b + " ,c", "," + b} {
			want, e := elements(v)
			checkElements(t, v, want, e)
			if c != 9 && (c < 32 || c > 126) && e != api.ErrForm {
				t.Errorf("%q should be no value", v)
			}
		}
	}
}

func TestElementsOfWrongForms(t *testing.T) { // P5.3
	for _, v := range []string{
		`"`, `a,"b`, `"a\"`, `"a"b"`, `a"`, `"a","`, `"\`, `"a\`, `"""`, "a\n", "a,\x00,b", "\"\x1f\"", "\"\\\x7f\"", "é", "a, b, \xff",
		strings.Repeat("a", 1999) + `"`,
		strings.Repeat("a", 1999) + "\n",
	} {
		checkElements(t, v, nil, api.ErrForm)
		checkHas(t, v, "a", false, api.ErrForm)
	}
}

func TestElementsOfTooMuch(t *testing.T) { // P5.3
	for _, v := range []string{strings.Repeat("a", 2001), strings.Repeat(" ", 2001), strings.Repeat(",", 2001), strings.Repeat("\n", 2001), `"` + strings.Repeat("a", 2000), strings.Repeat("a,", 1<<20)} {
		checkElements(t, v, nil, api.ErrLong)
		checkHas(t, v, "a", false, api.ErrLong)
	}
}

func TestElementsOfAllShortStrings(t *testing.T) { // P5.3
	each("a\",\\ \t\n", 6, func(v string) {
		want, e := elements(v)
		checkElements(t, v, want, e)
	})
}

func TestBlanksMakeNoDifference(t *testing.T) { // P5.8
	next := numbers(1)
	some := []string{`a`, `b c`, `"d,e"`, `f"g, \" ,h"i`, `""`, "x\ty", `k=1;l="2"`, `\`, `" "`}
	blank := func(b string) string {
		for range next(3) {
			b += []string{" ", "\t"}[next(2)]
		}
		return b
	}
	for range 5000 {
		var l []string
		v := blank("")
		for range next(6) {
			s := some[next(len(some))]
			l = append(l, s)
			for range next(3) {
				v += "," + blank("")
			}
			v += blank("") + s + blank("") + "," + blank("")
		}
		checkElements(t, v, l, api.OK)
		checkElements(t, strings.Join(l, ","), l, api.OK)
	}
}

func TestHasOfExamples(t *testing.T) { // P5.3
	checkHas(t, "close, Keep-Alive", "keep-alive", true, api.OK)
	checkHas(t, "close, Keep-Alive", "KEEP-ALIVE", true, api.OK)
	checkHas(t, "close, Keep-Alive", "Close", true, api.OK)
	checkHas(t, "close, Keep-Alive", "keep", false, api.OK)
	checkHas(t, "close, Keep-Alive", "alive", false, api.OK)
	checkHas(t, "close Keep-Alive", "close", false, api.OK)
	checkHas(t, "", "a", false, api.OK)
	checkHas(t, " , ,", "a", false, api.OK)
	checkHas(t, `"a"`, "a", false, api.OK)
	checkHas(t, `"x,a,y"`, "a", false, api.OK)
	checkHas(t, `a;q=1`, "a", false, api.OK)
	checkHas(t, "\t a\t,", "A", true, api.OK)
	checkHas(t, "^", "~", false, api.OK)
	checkHas(t, "`", "@", false, api.ErrArg)
	checkHas(t, strings.Repeat("a", 65), strings.Repeat("a", 64), false, api.OK)
	checkHas(t, strings.Repeat("a", 64), strings.Repeat("A", 64), true, api.OK)
	checkHas(t, strings.Repeat("b,", 999)+"a", "a", true, api.OK)
}

func TestHasOfWrongTokens(t *testing.T) { // P5.3
	for _, token := range []string{"", "a b", " a", "a,", `"a"`, "\n", "é", strings.Repeat("a", 65)} {
		checkHas(t, "a", token, false, api.ErrArg)
		checkHas(t, token, token, false, api.ErrArg)
		checkHas(t, `"`, token, false, api.ErrArg)
		checkHas(t, strings.Repeat("a", 2001), token, false, api.ErrArg)
	}
}

func TestHasOfAllShortStrings(t *testing.T) { // P5.3
	each("aA,\" b", 5, func(v string) {
		for _, token := range []string{"a", "A", "aa", "Ab", "b", "a a"} {
			want, e := has(v, token)
			checkHas(t, v, token, want, e)
		}
	})
}

func TestHasOfEachTwoBytes(t *testing.T) { // P5.3
	for a := range 256 {
		for b := range 256 {
			v, token := string([]byte{'x', byte(a)}), string([]byte{'X', byte(b)})
			want, e := has(v, token)
			checkHas(t, v, token, want, e)
		}
	}
}

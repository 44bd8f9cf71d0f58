package tokens_test

import (
	"strings"
	"testing"

	"spillway/api"
	"spillway/tokens"
)

// checkQuote fails if Quote does not return want and e.
func checkQuote(t *testing.T, s, want string, e api.Errno) {
	t.Helper()
	if got, gotErr := tokens.Quote(s); got != want || gotErr != e {
		t.Errorf("Quote(%.60q): %.60q, %d, want %.60q, %d", s, got, gotErr, want, e)
	}
}

// checkUnquote fails if Unquote does not return want and e.
func checkUnquote(t *testing.T, s, want string, e api.Errno) {
	t.Helper()
	if got, gotErr := tokens.Unquote(s); got != want || gotErr != e {
		t.Errorf("Unquote(%.60q): %.60q, %d, want %.60q, %d", s, got, gotErr, want, e)
	}
}

func TestQuoteOfExamples(t *testing.T) { // P5.2, P5.7
	for s, want := range map[string]string{
		"gzip":                    `gzip`,
		"a b":                     `"a b"`,
		`say "hi"`:                `"say \"hi\""`,
		"":                        `""`,
		" ":                       `" "`,
		"\t":                      "\"\t\"",
		`\`:                       `"\\"`,
		`"`:                       `"\""`,
		`\"`:                      `"\\\""`,
		`\a`:                      `"\\a"`,
		"a/b":                     `"a/b"`,
		"x,y;z=1":                 `"x,y;z=1"`,
		"~":                       `~`,
		"Gzip":                    `Gzip`,
		strings.Repeat("a", 64):   strings.Repeat("a", 64),
		strings.Repeat("a", 65):   `"` + strings.Repeat("a", 65) + `"`,
		strings.Repeat("a", 500):  `"` + strings.Repeat("a", 500) + `"`,
		strings.Repeat(`"`, 500):  `"` + strings.Repeat(`\"`, 500) + `"`,
		strings.Repeat("\\ ", 25): `"` + strings.Repeat(`\\ `, 25) + `"`,
	} {
		checkQuote(t, s, want, api.OK)
		checkUnquote(t, want, s, api.OK)
	}
}

func TestQuoteOfEachByte(t *testing.T) { // P5.2, P5.7
	for c := range 256 {
		b := string([]byte{byte(c)})
		for _, s := range []string{b, "a" + b, b + "a", " " + b + " ", b + b} {
			switch {
			case c != 9 && (c < 32 || c > 126):
				checkQuote(t, s, "", api.ErrForm)
				checkUnquote(t, `"`+s+`"`, "", api.ErrForm)
				checkUnquote(t, s, "", api.ErrForm)
				continue
			case tokenLike.MatchString(s):
				checkQuote(t, s, s, api.OK)
				checkUnquote(t, s, s, api.OK)
			default:
				want := `"` + strings.NewReplacer(`\`, `\\`, `"`, `\"`).Replace(s) + `"`
				checkQuote(t, s, want, api.OK)
				checkUnquote(t, want, s, api.OK)
			}
			checkUnquote(t, `"\`+b+`"`, b, api.OK)
		}
	}
}

func TestQuoteOfTooMuch(t *testing.T) { // P5.2
	checkQuote(t, strings.Repeat("a", 501), "", api.ErrLong)
	checkQuote(t, strings.Repeat(" ", 501), "", api.ErrLong)
	checkQuote(t, strings.Repeat("\n", 501), "", api.ErrLong)
	checkQuote(t, strings.Repeat("\xff", 500), "", api.ErrForm)
	checkQuote(t, strings.Repeat(" ", 499)+"\n", "", api.ErrForm)
	checkQuote(t, strings.Repeat("a", 1<<20), "", api.ErrLong)
}

func TestUnquoteOfWrongForms(t *testing.T) { // P5.2
	for _, s := range []string{
		``, `"`, `a"`, `"a`, `a"b`, `"a"b`, `"a""b"`, `"a" `, ` "a"`, `""""`, `"""`, `"a" "b"`, `a b`, ` a`, `a `, `a,b`, `a=b`, `a\b`, `\a`,
		`"\"`, `"\`, `\"`, `"a\"`, `"\\\"`, `\"a"`, `"a\`, `"a\\`, "'a b'",
		"\"\n\"", "\"\x00\"", "\"\x7f\"", "\"\x80\"", "\"é\"", "\"\\\n\"", "\"\\\x7f\"", "\"\\\x00\"", "\"\\é\"", "\"\\\t\\\x1f\"",
		strings.Repeat("a", 65),
		strings.Repeat("a", 501),
		`"` + strings.Repeat("a", 1000),
		`"` + strings.Repeat("a", 1000) + `"b`,
		`"` + strings.Repeat("a", 1000) + "\n\"",
		`"` + strings.Repeat(`\`, 1001) + `"`,
	} {
		checkUnquote(t, s, "", api.ErrForm)
	}
}

func TestUnquoteOfExamples(t *testing.T) { // P5.2
	for s, want := range map[string]string{
		`"a\b"`:                               `ab`,
		`"\a\b\\\""`:                          `ab\"`,
		"\"\\\t\t\\ \"":                       "\t\t ",
		`"gzip"`:                              `gzip`,
		`"\~\!"`:                              `~!`,
		strings.Repeat("a", 64):               strings.Repeat("a", 64),
		`"` + strings.Repeat("a", 65) + `"`:   strings.Repeat("a", 65),
		`"` + strings.Repeat(`\a`, 500) + `"`: strings.Repeat("a", 500),
	} {
		checkUnquote(t, s, want, api.OK)
	}
}

func TestUnquoteOfTooMuch(t *testing.T) { // P5.2
	checkUnquote(t, `"`+strings.Repeat("a", 501)+`"`, "", api.ErrLong)
	checkUnquote(t, `"`+strings.Repeat(`\a`, 501)+`"`, "", api.ErrLong)
	checkUnquote(t, `"`+strings.Repeat(`\a`, 499)+`aa"`, "", api.ErrLong)
	checkUnquote(t, `"`+strings.Repeat(`\\`, 1<<19)+`"`, "", api.ErrLong)
}

func TestUnquoteOfAllShortStrings(t *testing.T) { // P5.2, P5.7
	each("\"\\a \n,", 7, func(s string) {
		want, e := unquoted(s)
		checkUnquote(t, s, want, e)
		if e != api.OK {
			return
		}
		q, e := tokens.Quote(want)
		if e != api.OK || len(q) > len(s) {
			t.Errorf("Quote(%q): %q, %d, longer than %q", want, q, e, s)
		}
		checkUnquote(t, q, want, api.OK)
	})
}

func TestUnquoteOfQuote(t *testing.T) { // P5.7
	each("a\"\\ \t/", 5, func(s string) {
		q, e := tokens.Quote(s)
		if e != api.OK {
			t.Errorf("Quote(%q): %d", s, e)
		}
		checkUnquote(t, q, s, api.OK)
	})
}

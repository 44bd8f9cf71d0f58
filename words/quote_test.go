package words_test

import (
	"fmt"
	"strings"
	"testing"

	"spillway/api"
	"spillway/words"
)

// quotedByte is how the chapter writes a byte in a quoted form.
func quotedByte(c byte) string {
	switch {
	case c == '"':
		return `\"`
	case c == '\\':
		return `\\`
	case c == 10:
		return `\n`
	case c == 13:
		return `\r`
	case c == 9:
		return `\t`
	case c >= 32 && c <= 126:
		return string([]byte{c})
	}
	return fmt.Sprintf(`\x%02x`, c)
}

// quoted is the quoted form of s.
func quoted(s string) string {
	var b strings.Builder
	b.WriteByte('"')
	for i := range len(s) {
		b.WriteString(quotedByte(s[i]))
	}
	b.WriteByte('"')
	return b.String()
}

// allBytes has each byte once.
func allBytes() string {
	var b []byte
	for c := range 256 {
		b = append(b, byte(c))
	}
	return string(b)
}

func TestQuoteOfExamples(t *testing.T) { // P1.2
	for s, want := range map[string]string{
		"":                 `""`,
		"a\n\x00\"":        `"a\n\x00\""`,
		"a b":              `"a b"`,
		"\\\r\t":           `"\\\r\t"`,
		"'`~":              "\"'`~\"",
		"\x1f\x7f\x80\xff": `"\x1f\x7f\x80\xff"`,
		"é":                `"\xc3\xa9"`,
		`\n`:               `"\\n"`,
	} {
		if got := words.Quote(s); got != want {
			t.Errorf("Quote(%q): %s, want %s", s, got, want)
		}
		if got, e := words.Unquote(want); got != s || e != api.OK {
			t.Errorf("Unquote(%s): %q, %d", want, got, e)
		}
	}
}

func TestQuoteOfEachByte(t *testing.T) { // P1.2, P1.7
	for c := range 256 {
		for _, s := range []string{string([]byte{byte(c)}), "a" + string([]byte{byte(c), 'b'}), string([]byte{byte(c), byte(c)})} {
			if got := words.Quote(s); got != quoted(s) {
				t.Errorf("Quote(%q): %s, want %s", s, got, quoted(s))
			}
			if got, e := words.Unquote(quoted(s)); got != s || e != api.OK {
				t.Errorf("Unquote(%s): %q, %d", quoted(s), got, e)
			}
		}
	}
}

func TestQuoteOfAnyLength(t *testing.T) { // P1.2, P1.7
	s := strings.Repeat(allBytes(), 1000)
	q := words.Quote(s)
	if q != quoted(s) {
		t.Error("Quote of a long string")
	}
	if got, e := words.Unquote(q); got != s || e != api.OK {
		t.Errorf("Unquote of a long string: %d", e)
	}
	if got, e := words.Unquote(q + "x"); got != "" || e != api.ErrForm {
		t.Errorf("Unquote of a long string and a byte: %d", e)
	}
}

func TestUnquoteOfWrongForms(t *testing.T) { // P1.2
	for _, s := range []string{
		``, `"`, `a`, `"a`, `a"`, `a"a"`, `"a" `, ` "a"`, `"a"b`, `"a""b"`, `"""`, `"a"b"`,
		`"\x41"`, `"\x20"`, `"\x7e"`, `"\x22"`, `"\x5c"`, `"\x0a"`, `"\x0d"`, `"\x09"`,
		`"\x7F"`, `"\xFF"`, `"\xfF"`, `"\x0"`, `"\x"`, `"\x0g"`, `"\xg0"`, `"\x0`, `"\x`, `"\X00"`, `"\x 0"`,
		`"\"`, `"\`, `"\a"`, `"\0"`, `"\b"`, `"\N"`, `"\'"`, `"\u00e9"`, `"\\\"`,
		"\"\n\"", "\"\t\"", "\"\x00\"", "\"\x7f\"", "\"\x80\"", "\"é\"", "\"\\\n\"",
		"'a'", "`a`",
	} {
		if got, e := words.Unquote(s); got != "" || e != api.ErrForm {
			t.Errorf("Unquote(%q): %q, %d", s, got, e)
		}
	}
}

func TestUnquoteOfAllHexEscapes(t *testing.T) { // P1.2
	forms := map[string]byte{}
	for c := range 256 {
		forms[`"`+quotedByte(byte(c))+`"`] = byte(c)
	}
	for high := range 256 {
		for low := range 256 {
			s := "\"\\x" + string([]byte{byte(high), byte(low)}) + "\""
			c, ok := forms[s]
			got, e := words.Unquote(s)
			if ok && (e != api.OK || got != string([]byte{c})) || !ok && (e != api.ErrForm || got != "") {
				t.Errorf("Unquote(%q): %q, %d", s, got, e)
			}
		}
	}
}

func TestUnquoteOfAllShortStrings(t *testing.T) { // P1.2, P1.7
	each("\"\\xn01a\n", 6, func(s string) {
		got, e := words.Unquote(s)
		if e == api.OK && words.Quote(got) != s {
			t.Errorf("Quote of Unquote(%q): %s", s, words.Quote(got))
		}
		if e != api.OK && (e != api.ErrForm || got != "") {
			t.Errorf("Unquote(%q): %q, %d", s, got, e)
		}
	})
	each("\"\\xn01a\n\xfe", 4, func(s string) {
		if got, e := words.Unquote(quoted(s)); got != s || e != api.OK {
			t.Errorf("Unquote(%q): %q, %d", quoted(s), got, e)
		}
	})
}

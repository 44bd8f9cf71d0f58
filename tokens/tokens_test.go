package tokens_test

import (
	"strings"
	"testing"

	"spillway/tokens"
)

func TestTokenOfExamples(t *testing.T) { // P5.1
	for s, want := range map[string]bool{
		"gzip": true, "a/b": false, "": false, "a": true, "0": true, "-": true, "!#$%&'*+-.^_`|~": true, "x-Y.9": true,
		" ": false, "a b": false, " a": false, "a ": false, "a\t": false, "a,": false, "a;b": false, "a=b": false, `"a"`: false, `a\b`: false, "ä": false, "a\x00": false, "\u212a": false,
		strings.Repeat("a", 64):       true,
		strings.Repeat("a", 65):       false,
		strings.Repeat("a", 1000):     false,
		strings.Repeat("a", 63) + " ": false,
	} {
		if got := tokens.Token(s); got != want {
			t.Errorf("Token(%q): %v", s, got)
		}
	}
}

func TestTokenOfEachByte(t *testing.T) { // P5.1
	const all = "!#$%&'*+-.^_`|~0123456789ABCDEFGHIJKLMNOPQRSTUVWXYZabcdefghijklmnopqrstuvwxyz"
	for c := range 256 {
		b := string([]byte{byte(c)})
		want := strings.Contains(all, b)
		for _, s := range []string{b, "a" + b, b + "a", "a" + b + "a", strings.Repeat(b, 64), strings.Repeat("a", 63) + b} {
			if got := tokens.Token(s); got != want {
				t.Errorf("Token(%q): %v", s, got)
			}
		}
		if tokens.Token(strings.Repeat(b, 65)) {
			t.Errorf("Token of the byte %d 65 times", c)
		}
	}
}

func TestFold(t *testing.T) { // P5.1
	for s, want := range map[string]string{
		"":                               "",
		"Keep-Alive":                     "keep-alive",
		"GZIP":                           "gzip",
		"gzip":                           "gzip",
		"Ä":                              "Ä",
		"\u212a":                         "\u212a",
		"A\xffB\xc3C\x00":                "a\xffb\xc3c\x00",
		"A \"B\" \\C\n":                  "a \"b\" \\c\n",
		strings.Repeat("@AZ[`az{", 5000): strings.Repeat("@az[`az{", 5000),
	} {
		if got := tokens.Fold(s); got != want {
			t.Errorf("Fold(%.60q): %.60q", s, got)
		}
	}
}

func TestFoldOfEachByte(t *testing.T) { // P5.1
	const upper, lower = "ABCDEFGHIJKLMNOPQRSTUVWXYZ", "abcdefghijklmnopqrstuvwxyz"
	for c := range 256 {
		s := string([]byte{byte(c)})
		want := s
		if i := strings.Index(upper, s); i >= 0 {
			want = lower[i : i+1]
		}
		if got := tokens.Fold("x" + s + s); got != "x"+want+want {
			t.Errorf("Fold(%q): %q", "x"+s+s, got)
		}
	}
}

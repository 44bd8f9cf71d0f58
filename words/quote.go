package words

import (
	"strings"

	"spillway/api"
)

// escape is a byte that is escaped by a letter of its own.
type escape struct{ plain, letter byte }

var escapes = [...]escape{
	{'"', '"'},
	{'\\', '\\'},
	{'\n', 'n'},
	{'\r', 'r'},
	{'\t', 't'},
}

const hexDigits = "0123456789abcdef"

// Quote returns the quoted form of s.
func Quote(s string) string {
	var b strings.Builder
	b.WriteByte('"')
	for i := 0; i < len(s); i++ {
		writeQuoted(&b, s[i])
	}
	b.WriteByte('"')
	return b.String()
}

// Unquote returns the string whose quoted form is s.
func Unquote(s string) (string, api.Errno) {
	text, used := readQuoted(s)
	if used == 0 || used < len(s) {
		return "", api.ErrForm
	}
	return text, api.OK
}

// writeQuoted writes c as it stands in a quoted form.
func writeQuoted(b *strings.Builder, c byte) {
	if plain(c) {
		b.WriteByte(c)
		return
	}
	b.WriteByte('\\')
	if letter, ok := letterOf(c); ok {
		b.WriteByte(letter)
		return
	}
	b.WriteByte('x')
	b.WriteByte(hexDigits[c>>4])
	b.WriteByte(hexDigits[c&15])
}

// readQuoted returns the string whose quoted form s begins with, and the length of that form (0: s begins with none).
func readQuoted(s string) (text string, used int) {
	if s == "" || s[0] != '"' {
		return "", 0
	}
	var b strings.Builder
	for i := 1; i < len(s); {
		if s[i] == '"' {
			return b.String(), i + 1
		}
		c, n := readByte(s[i:])
		if n == 0 {
			return "", 0
		}
		b.WriteByte(c)
		i += n
	}
	return "", 0
}

// readByte returns the byte that s, which is not empty, begins with inside a quoted form, and how many bytes stand for it (0: s begins with none).
func readByte(s string) (c byte, used int) {
	if plain(s[0]) {
		return s[0], 1
	}
	if s[0] != '\\' || len(s) == 1 {
		return 0, 0
	}
	if s[1] == 'x' {
		return readHex(s)
	}
	for _, e := range escapes {
		if e.letter == s[1] {
			return e.plain, 2
		}
	}
	return 0, 0
}

// readHex is readByte of what begins with \x.
func readHex(s string) (c byte, used int) {
	if len(s) < 4 {
		return 0, 0
	}
	high := strings.IndexByte(hexDigits, s[2])
	low := strings.IndexByte(hexDigits, s[3])
	if high < 0 || low < 0 {
		return 0, 0
	}
	c = byte(high<<4 | low)
	// A byte that has a shorter form has no other one.
	if _, ok := letterOf(c); ok || plain(c) {
		return 0, 0
	}
	return c, 4
}

// letterOf returns the letter that escapes c, and whether there is one.
func letterOf(c byte) (letter byte, ok bool) {
	for _, e := range escapes {
		if e.plain == c {
			return e.letter, true
		}
	}
	return 0, false
}

// plain reports whether c stands for itself in a quoted form.
func plain(c byte) bool {
	return ' ' <= c && c <= '~' && c != '"' && c != '\\'
}

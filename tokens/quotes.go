package tokens

import (
	"strings"

	"spillway/api"
)

// Quote returns s, if it is a token, and its quoted string otherwise.
func Quote(s string) (string, api.Errno) {
	if len(s) > api.MaxTkText {
		return "", api.ErrLong
	}
	if !isString(s) {
		return "", api.ErrForm
	}
	if Token(s) {
		return strings.Clone(s), api.OK
	}
	return quoted(s), api.OK
}

// Unquote returns the token s, or what the quoted string s stands for.
func Unquote(s string) (string, api.Errno) {
	r := reader{rest: s}
	text, ok := r.readText()
	if !ok || r.rest != "" {
		return "", api.ErrForm
	}
	if len(text) > api.MaxTkText {
		return "", api.ErrLong
	}
	return text, api.OK
}

// quoted returns the shortest quoted string that stands for s.
func quoted(s string) string {
	var b strings.Builder
	b.WriteByte('"')
	for i := range len(s) {
		if k := kindOf(s[i]); k == quote || k == escape {
			b.WriteByte('\\')
		}
		b.WriteByte(s[i])
	}
	b.WriteByte('"')
	return b.String()
}

// readQuoted reads the quoted string that the byte 34 at the beginning of s begins. It returns what this stands for, and its length (0: it does not end).
func readQuoted(s string) (text string, used int) {
	var b strings.Builder
	i := 0
next:
	i++
	if i == len(s) {
		return "", 0
	}
	switch kindOf(s[i]) {
	case foreign:
		return "", 0
	case quote:
		return b.String(), i + 1
	case escape:
		goto pair
	}
write:
	b.WriteByte(s[i])
	goto next
pair:
	i++
	if i == len(s) || kindOf(s[i]) == foreign {
		return "", 0
	}
	goto write
}

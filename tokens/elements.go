package tokens

import (
	"strings"

	"spillway/api"
)

// Elements returns the elements of a value.
func Elements(v string) ([]string, api.Errno) {
	if len(v) > api.MaxTkValue {
		return nil, api.ErrLong
	}
	var l []string
	for rest := v; rest != ""; {
		n, ok := elementLength(rest)
		if !ok {
			return nil, api.ErrForm
		}
		if s := strings.Trim(rest[:n], blanks); s != "" {
			l = append(l, strings.Clone(s))
		}
		rest = strings.TrimPrefix(rest[n:], ",")
	}
	return l, api.OK
}

// Has reports whether an element of a value is, without case, a token.
func Has(v, token string) (bool, api.Errno) {
	if !Token(token) {
		return false, api.ErrArg
	}
	l, e := Elements(v)
	if e != api.OK {
		return false, e
	}
	for _, s := range l {
		if Fold(s) == Fold(token) {
			return true, api.OK
		}
	}
	return false, api.OK
}

// elementLength returns how many bytes of v are before the first comma that is in no quoted string, and whether they may be part of a value.
func elementLength(v string) (n int, ok bool) {
	for n < len(v) {
		switch kindOf(v[n]) {
		case comma:
			return n, true
		case foreign:
			return 0, false
		case quote:
			_, used := readQuoted(v[n:])
			if used == 0 {
				return 0, false
			}
			n += used
		default:
			n++
		}
	}
	return n, true
}

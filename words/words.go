// Package words is layer 1: names, numbers, quoted strings, lines of fields, texts and list expressions. See shared/doc/01-words.md.
package words

import (
	"strconv"

	"spillway/api"
)

// Name reports whether s is a name.
func Name(s string) bool {
	if s == "" || len(s) > api.MaxName || !lower(s[0]) {
		return false
	}
	for i := 1; i < len(s); i++ {
		if !lower(s[i]) && !digit(s[i]) && s[i] != '-' {
			return false
		}
	}
	return true
}

// Int returns the integer from low to high whose decimal form is s.
func Int(s string, low, high int64) (int64, api.Errno) {
	if !decimal(s) {
		return 0, api.ErrForm
	}
	// The form is right, so that an integer that does not fit is the only error that is left.
	n, err := strconv.ParseInt(s, 10, 64)
	if err != nil || n < low || n > high {
		return 0, api.ErrRange
	}
	return n, api.OK
}

// Digits returns the decimal form of n.
func Digits(n int64) string {
	return strconv.FormatInt(n, 10)
}

// decimal reports whether s is the decimal form of an integer of any size.
func decimal(s string) bool {
	if s != "" && s[0] == '-' {
		return s != "-0" && natural(s[1:])
	}
	return natural(s)
}

// natural reports whether s is the decimal form of a non-negative integer of any size.
func natural(s string) bool {
	if s == "" || s[0] == '0' && len(s) > 1 {
		return false
	}
	for i := 0; i < len(s); i++ {
		if !digit(s[i]) {
			return false
		}
	}
	return true
}

func lower(c byte) bool { return 'a' <= c && c <= 'z' }

func digit(c byte) bool { return '0' <= c && c <= '9' }

package chunks

import (
	"strconv"
	"strings"

	"spillway/api"
)

const maxDigits = 8

// reach is how far the line of a size is.
type reach int

const (
	beforeDigits reach = iota
	inDigits
	inExtension
	afterReturn
)

// beginsLine reports whether the line of a size can begin with s, and goes on after it.
func beginsLine(s string) bool {
	for i := range len(s) {
		if s[i] == '\n' || checkNext(s[:i], s[i]) != api.OK {
			return false
		}
	}
	return true
}

// checkNext returns the error of a byte after the beginning of the line of a size, but for what the size itself may be.
func checkNext(line string, c byte) api.Errno {
	far := reachOf(line)
	if !canFollow(far, c) {
		return api.ErrForm
	}
	if far == inDigits && isDigit(c) && len(line) == maxDigits {
		return api.ErrLong
	}
	if far == inExtension && c != '\r' && len(line) == api.MaxChLine {
		return api.ErrLong
	}
	return api.OK
}

// reachOf returns how far a line is.
func reachOf(line string) reach {
	switch {
	case line == "":
		return beforeDigits
	case strings.HasSuffix(line, "\r"):
		return afterReturn
	case strings.Contains(line, ";"):
		return inExtension
	}
	return inDigits
}

// canFollow reports whether a line that is so far can go on with c, however long it is.
func canFollow(far reach, c byte) bool {
	switch far {
	case beforeDigits:
		return isDigit(c)
	case inDigits:
		return isDigit(c) || c == ';' || c == '\r'
	case inExtension:
		return c == '\t' || ' ' <= c && c <= '~' || c == '\r'
	}
	return c == '\n'
}

// sizeOf returns the size that a line says, which has all its bytes but the last one.
func sizeOf(line string) int64 {
	digits := line[:strings.IndexAny(line, ";\r")]
	// So few digits are always a number.
	n, _ := strconv.ParseInt(digits, 16, 64)
	return n
}

// isDigit reports whether c is a hexadecimal digit.
func isDigit(c byte) bool {
	return '0' <= c && c <= '9' || 'a' <= c && c <= 'f' || 'A' <= c && c <= 'F'
}

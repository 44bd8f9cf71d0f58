package request

import (
	"iter"
	"strconv"
	"strings"

	"spillway/api"
)

// kind is a kind of bytes.
type kind uint8

const (
	foreign  kind = iota // in no target, unless it is encoded
	plain                // never encoded in normal forms
	reserved             // in targets both as it is and encoded, which are different
)

// kinds is the kinds of the bytes below 128.
var kinds = [128]kind{
	'A': plain, 'B': plain, 'C': plain, 'D': plain, 'E': plain, 'F': plain, 'G': plain, 'H': plain, 'I': plain,
	'J': plain, 'K': plain, 'L': plain, 'M': plain, 'N': plain, 'O': plain, 'P': plain, 'Q': plain, 'R': plain,
	'S': plain, 'T': plain, 'U': plain, 'V': plain, 'W': plain, 'X': plain, 'Y': plain, 'Z': plain,
	'a': plain, 'b': plain, 'c': plain, 'd': plain, 'e': plain, 'f': plain, 'g': plain, 'h': plain, 'i': plain,
	'j': plain, 'k': plain, 'l': plain, 'm': plain, 'n': plain, 'o': plain, 'p': plain, 'q': plain, 'r': plain,
	's': plain, 't': plain, 'u': plain, 'v': plain, 'w': plain, 'x': plain, 'y': plain, 'z': plain,
	'0': plain, '1': plain, '2': plain, '3': plain, '4': plain, '5': plain, '6': plain, '7': plain, '8': plain, '9': plain,
	'-': plain, '.': plain, '_': plain, '~': plain,
	'!': reserved, '$': reserved, '&': reserved, '\'': reserved, '(': reserved, ')': reserved, '*': reserved, '+': reserved,
	',': reserved, ';': reserved, '=': reserved, ':': reserved, '@': reserved, '/': reserved, '?': reserved,
}

// Split returns the path and the query of a target, and whether it has a query.
func Split(target string) (path, query string, has bool, e api.Errno) {
	if e := checkTarget(target); e != api.OK {
		return "", "", false, e
	}
	path, query, has = cut(target)
	return strings.Clone(path), strings.Clone(query), has, api.OK
}

// Clean returns the normal form of a target.
func Clean(target string) (string, api.Errno) {
	if e := checkTarget(target); e != api.OK {
		return "", e
	}
	return normal(target), api.OK
}

func checkTarget(s string) api.Errno {
	if len(s) > api.MaxRqTarget {
		return api.ErrLong
	}
	if !inOriginForm(s) {
		return api.ErrForm
	}
	return api.OK
}

// inOriginForm reports whether s is in origin form. The first question mark is where its query begins, and others are in the query, so that they may be anywhere.
func inOriginForm(s string) bool {
	for unit := range units(s) {
		if _, ok := encoded(unit); !ok && kindOf(unit[0]) == foreign {
			return false
		}
	}
	return strings.HasPrefix(s, "/")
}

// cut cuts a target at the question mark that begins its query.
func cut(target string) (path, query string, has bool) { return strings.Cut(target, "?") }

// normal returns the normal form of a target without faults.
func normal(target string) string {
	path, _, _ := cut(target)
	return withoutDots(decode(path)) + decode(target[len(path):])
}

// decode returns the part of a target in which no byte is encoded that need not be.
func decode(s string) string {
	var b strings.Builder
	for unit := range units(s) {
		c, ok := encoded(unit)
		switch {
		case ok && kindOf(c) == plain:
			b.WriteByte(c)
		case ok:
			b.WriteString(strings.ToUpper(unit))
		default:
			b.WriteString(unit)
		}
	}
	return b.String()
}

// withoutDots returns a path without its segments of one or two periods, and without those that the latter take away.
func withoutDots(path string) string {
	var kept []string
	for s, last := range segments(path) {
		switch s {
		case ".":
		case "..":
			kept = kept[:max(len(kept)-1, 0)]
		default:
			kept = append(kept, s)
			continue
		}
		if last {
			kept = append(kept, "")
		}
	}
	return "/" + strings.Join(kept, "/")
}

// segments yields what is between the slashes of a path, and whether it is the last of it.
func segments(path string) iter.Seq2[string, bool] {
	return func(yield func(string, bool) bool) {
		s, rest, more := strings.Cut(path[1:], "/")
		for yield(s, !more) && more {
			s, rest, more = strings.Cut(rest, "/")
		}
	}
}

// units yields the bytes of a target one by one, but each percent sign together with the two bytes after it.
func units(s string) iter.Seq[string] {
	return func(yield func(string) bool) {
		for s != "" {
			n := 1
			if s[0] == '%' {
				n = min(3, len(s))
			}
			if !yield(s[:n]) {
				return
			}
			s = s[n:]
		}
	}
}

// encoded returns the byte that a unit has in percent-encoded form, and whether it has one.
func encoded(unit string) (c byte, ok bool) {
	if len(unit) != 3 {
		return 0, false
	}
	n, err := strconv.ParseUint(unit[1:], 16, 8)
	return byte(n), err == nil
}

func kindOf(c byte) kind {
	if int(c) >= len(kinds) {
		return foreign
	}
	return kinds[c]
}

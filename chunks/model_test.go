package chunks_test

import (
	"fmt"
	"regexp"
	"slices"
	"strconv"
	"strings"

	"spillway/api"
	"spillway/headers"
)

// startLike finds what at the beginning of a string may be a line of a size, or a beginning of one, but for limits.
var startLike = regexp.MustCompile(`^(?:([0-9A-Fa-f]+)(;[\t -~]*)?(?:\r(\n)?)?)?`)

// field returns a field.
func field(name, value string) api.HdField { return api.HdField{Name: name, Value: value} }

// fields returns fields with these names and values in turn.
func fields(all ...string) []api.HdField {
	var l []api.HdField
	for i := 0; i < len(all); i += 2 {
		l = append(l, field(all[i], all[i+1]))
	}
	return l
}

// lines is the lines of fields.
func lines(l []api.HdField) string {
	s := ""
	for _, f := range l {
		s += f.Name + ": " + f.Value + "\r\n"
	}
	return s + "\r\n"
}

// long returns fields whose lines have n bytes, n at least 1000.
func long(n int) []api.HdField {
	var l []api.HdField
	for n -= 2; n >= 2000; n -= 1000 {
		l = append(l, field("long", strings.Repeat("v", 1000-8)))
	}
	return append(l, field("rest", strings.Repeat("w", n-8)))
}

// numbers returns numbers below n that look like random ones.
func numbers(seed uint64) func(n int) int {
	return func(n int) int {
		seed = seed*6364136223846793005 + 1442695040888963407
		return int(seed >> 33 % uint64(n))
	}
}

// each calls f with all strings of at most n of the bytes of alphabet.
func each(alphabet string, n int, f func(s string)) {
	f("")
	if n == 0 {
		return
	}
	for i := range len(alphabet) {
		each(alphabet, n-1, func(s string) { f(alphabet[i:i+1] + s) })
	}
}

// short is the beginning of x as a text for messages.
func short(x any) string {
	s := fmt.Sprintf("%+q", x)
	return s[:min(len(s), 300)]
}

// chunk is a chunk without an extension.
func chunk(data string) string { return fmt.Sprintf("%x\r\n%s\r\n", len(data), data) }

// same reports whether two states are the same.
func same(a, b api.ChState) bool {
	return a.Phase == b.Phase && a.Line == b.Line && a.Data == b.Data && a.Left == b.Left && slices.Equal(a.Trailers, b.Trailers)
}

// takenNames is the names that no trailer may have.
var takenNames = regexp.MustCompile(`^(?i:connection|content-length|host|trailer|transfer-encoding)$`)

// taken reports whether a field has a name that no trailer may have.
func taken(l []api.HdField) bool {
	return slices.ContainsFunc(l, func(f api.HdField) bool { return takenNames.MatchString(f.Name) })
}

// read is the state to which the bytes of s lead from the beginning on, and how many are read; it has a piece of content at a time, where Feed has a byte. With an error, the rest has no meaning.
func read(s string) (x api.ChState, used int, e api.Errno) {
	rest := s
	for {
		size, line, e := readLine(rest)
		if e != api.OK {
			return x, 0, e
		}
		if size < 0 {
			x.Phase, x.Line = api.ChSize, rest
			return x, len(s), api.OK
		}
		if int64(len(x.Data))+size > 65536 {
			return x, 0, api.ErrLong
		}
		rest = rest[line:]
		if size == 0 {
			used, e := readTrailers(&x, rest)
			return x, len(s) - len(rest) + used, e
		}
		n := min(int(size), len(rest))
		x.Data += rest[:n]
		rest = rest[n:]
		if n < int(size) {
			x.Phase, x.Left = api.ChData, int(size)-n
			return x, len(s), api.OK
		}
		if rest == "" || rest == "\r" {
			x.Phase, x.Line = api.ChEnd, rest
			return x, len(s), api.OK
		}
		if !strings.HasPrefix(rest, "\r\n") {
			return x, 0, api.ErrForm
		}
		rest = rest[2:]
	}
}

// readLine reads the line of a size, and returns how many bytes it has; the size is below 0 if s is only a beginning of one.
func readLine(s string) (size int64, used int, e api.Errno) {
	m := startLike.FindStringSubmatch(s)
	if len(m[1]) > 8 || len(strings.TrimRight(m[0], "\r\n")) > 200 {
		return 0, 0, api.ErrLong
	}
	if m[3] != "" {
		size, _ := strconv.ParseInt(m[1], 16, 64)
		return size, len(m[0]), api.OK
	}
	if m[0] != s {
		return 0, 0, api.ErrForm
	}
	return -1, 0, api.OK
}

// readTrailers reads trailers, and returns how many bytes they have. Each beginning is tried, up to the first one for which headers.Parse does not ask for more.
func readTrailers(x *api.ChState, s string) (used int, e api.Errno) {
	for n := range len(s) {
		l, _, e := headers.Parse([]byte(s[:n+1]))
		if e == api.ErrMore {
			continue
		}
		if e == api.OK && taken(l) {
			e = api.ErrForm
		}
		if e == api.OK {
			e = headers.Check(l)
		}
		x.Phase, x.Trailers = api.ChDone, l
		return n + 1, e
	}
	x.Phase, x.Line = api.ChTrailer, s
	return len(s), api.OK
}

// lead is bytes that lead to a state from the beginning on, if any do.
func lead(x api.ChState) string {
	s := ""
	if x.Data != "" {
		s = chunk(x.Data)
	}
	switch x.Phase {
	case api.ChSize:
		return s + x.Line
	case api.ChData:
		return s + fmt.Sprintf("%x\r\n", x.Left)
	case api.ChEnd:
		return strings.TrimSuffix(s, "\r\n") + x.Line
	case api.ChTrailer:
		return s + "0\r\n" + x.Line
	case api.ChDone:
		return s + "0\r\n" + lines(x.Trailers)
	}
	return ""
}

// check is what Check should return.
func check(x api.ChState) api.Errno {
	y, used, e := read(lead(x))
	if e != api.OK || used != len(lead(x)) || !same(x, y) {
		return api.ErrForm
	}
	return api.OK
}

// feed is what Feed should return.
func feed(x api.ChState, b string) (api.ChState, int, api.Errno) {
	if e := check(x); e != api.OK {
		return x, 0, e
	}
	y, used, e := read(lead(x) + b)
	if e != api.OK {
		return x, 0, e
	}
	return y, used - len(lead(x)), api.OK
}

// decode is what Decode should return.
func decode(b string) (data string, trailers []api.HdField, used int, e api.Errno) {
	x, used, e := read(b)
	if e == api.OK && x.Phase != api.ChDone {
		e = api.ErrMore
	}
	if e != api.OK {
		return "", nil, 0, e
	}
	return x.Data, x.Trailers, used, api.OK
}

// encode is what Encode should return.
func encode(data string, sizes []int, trailers []api.HdField) (string, api.Errno) {
	if len(data) > 65536 {
		return "", api.ErrLong
	}
	s := ""
	for _, n := range sizes {
		if n < 1 || n > len(data) {
			return "", api.ErrArg
		}
		s += chunk(data[:n])
		data = data[n:]
	}
	if data != "" {
		return "", api.ErrArg
	}
	if e := headers.Check(trailers); e != api.OK {
		return "", e
	}
	if taken(trailers) {
		return "", api.ErrForm
	}
	return s + "0\r\n" + lines(trailers), api.OK
}

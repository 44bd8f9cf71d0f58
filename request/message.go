package request

import (
	"bytes"
	"slices"
	"strings"

	"spillway/api"
	"spillway/headers"
	"spillway/tokens"
	"spillway/words"
)

const (
	space   = " "
	version = "HTTP/1.1\r\n" // with the end of the line
)

// Encode returns the message of a request.
func Encode(r api.Request) (string, api.Errno) {
	if _, e := Check(r); e != api.OK {
		return "", e
	}
	// Check has found no error in these fields.
	l, _ := written(r)
	lines, _ := headers.Print(l)
	return r.Method + space + r.Target + space + version + lines + r.Body, api.OK
}

// Parse reads the message with which b begins, and returns how many bytes it has.
func Parse(b []byte) (r api.Request, used int, e api.Errno) {
	r, length, used, e := readHead(b)
	if e != api.OK {
		return api.Request{}, 0, e
	}
	if length > 0 && methodOf(r.Method).bodiless {
		return api.Request{}, 0, api.ErrArg
	}
	if len(b)-used < length {
		return api.Request{}, 0, api.ErrMore
	}
	r.Body = string(b[used : used+length])
	return r, used + length, api.OK
}

// Feed reads the messages of bytes that were left, and of those that have arrived, and returns the bytes that are left now.
func Feed(rest, more []byte) (l []api.Request, left []byte, e api.Errno) {
	left = slices.Concat(rest, more)
	for {
		r, used, last := Parse(left)
		switch last {
		case api.OK:
			l, left = append(l, r), left[used:]
		case api.ErrMore:
			return l, left, api.OK
		default:
			return l, nil, last
		}
	}
}

// readHead reads what is before the body of a message: the request without its body, how long this is, and how many bytes are before it. With an error, the other results have no meaning.
func readHead(b []byte) (r api.Request, length, used int, e api.Errno) {
	r, line, e := readLine(b)
	if e != api.OK {
		return r, 0, 0, e
	}
	l, lines, e := headers.Parse(b[line:])
	if e != api.OK {
		return r, 0, 0, e
	}
	length, e = readFields(&r, l)
	if e != api.OK {
		return r, 0, 0, e
	}
	_, e = Check(r)
	return r, length, line + lines, e
}

// readLine reads the request line, and returns how many bytes it has.
func readLine(b []byte) (r api.Request, used int, e api.Errno) {
	used = 1 + bytes.IndexByte(b[:min(len(b), api.MaxRqLine)], '\n')
	if used == 0 && len(b) < api.MaxRqLine {
		return r, 0, api.ErrMore
	}
	if used == 0 {
		return r, 0, api.ErrLong
	}
	parts := strings.Split(string(b[:used]), space)
	if len(parts) != 3 || parts[0] == "" || parts[1] == "" || parts[2] != version {
		return r, 0, api.ErrForm
	}
	r.Method, r.Target = strings.Clone(parts[0]), strings.Clone(parts[1])
	return r, used, api.OK
}

// readFields gives a request the parts that fields of a message say, and returns how long its body is.
func readFields(r *api.Request, l []api.HdField) (length int, e api.Errno) {
	own := map[string][]string{}
	for _, f := range l {
		if name := tokens.Fold(f.Name); isOwn(name) {
			own[name] = append(own[name], f.Value)
		} else {
			r.Fields = append(r.Fields, f)
		}
	}
	hosts, ids, lengths := own[hostName], own[idName], own[lengthName]
	if len(hosts) != 1 || len(ids) != 1 || len(lengths) > 1 || len(own[encodingName]) > 0 {
		return 0, api.ErrForm
	}
	// An Id that is too large stays 0, which Check refuses with the same error.
	id, e := natural(ids[0], api.MaxRqId)
	if e == api.ErrForm {
		return 0, e
	}
	r.Host, r.Id = hosts[0], id
	return readLength(lengths)
}

// readLength returns the number of a field content-length, if there is one.
func readLength(values []string) (int, api.Errno) {
	if len(values) == 0 {
		return 0, api.OK
	}
	n, e := natural(values[0], api.MaxBody)
	if e == api.ErrRange {
		e = api.ErrLong
	}
	return int(n), e
}

// natural returns the integer, which is not negative, whose decimal form is s; ErrRange if it is greater than most.
func natural(s string, most int64) (int64, api.Errno) {
	if strings.HasPrefix(s, "-") {
		return 0, api.ErrForm
	}
	return words.Int(s, 0, most)
}

package request_test

import (
	"fmt"
	"math/big"
	"regexp"
	"slices"
	"strconv"
	"strings"

	"spillway/api"
	"spillway/headers"
)

// The forms of the chapter as regular expressions, which are a way of their own to read them.
const pathPart = `(?:[A-Za-z0-9._~!$&'()*+,;=:@/-]|%[0-9A-Fa-f][0-9A-Fa-f])*`

var (
	tokenLike   = regexp.MustCompile("^[!#$%&'*+.^_`|~0-9A-Za-z-]{1,64}$")
	methodLike  = regexp.MustCompile("^[!#$%&'*+.^_`|~0-9A-Za-z-]{1,16}$")
	targetLike  = regexp.MustCompile(`^(/` + pathPart + `)(\?((?:` + pathPart + `\??)*))?$`)
	hostLike    = regexp.MustCompile(`^[a-z0-9.:-]{1,100}$`)
	pairLike    = regexp.MustCompile(`%..`)
	plainLike   = regexp.MustCompile(`^[A-Za-z0-9._~-]$`)
	lineLike    = regexp.MustCompile(`^([^ ]+) ([^ ]+) HTTP/1\.1\r\n$`)
	naturalLike = regexp.MustCompile(`^(0|[1-9][0-9]*)$`)
)

// field returns a field.
func field(name, value string) api.HdField { return api.HdField{Name: name, Value: value} }

// fields returns fields with these names and values in turn.
func fields(all ...string) []api.HdField {
	var l []api.HdField
	for i := 0; i < len(all); i += 2 {
		l = append(l, field(all[i], all[i+1]))
	}
	return l
}

// repeat returns a field n times.
func repeat(name, value string, n int) []api.HdField {
	return slices.Repeat(fields(name, value), n)
}

// example is R of the chapter's examples.
func example() api.Request {
	return api.Request{Id: 7, Method: "GET", Target: "/a/../b%7e?x", Host: "h", Fields: fields("Connection", "close", "Accept", "*")}
}

// changed is the example with a change.
func changed(change func(r *api.Request)) api.Request {
	r := example()
	change(&r)
	return r
}

// withTarget is a request with a target.
func withTarget(s string) api.Request { return changed(func(r *api.Request) { r.Target = s }) }

// build is a request with these parts, the Id 5 and the host h.
func build(method, target, body string, l ...api.HdField) api.Request {
	return api.Request{Id: 5, Method: method, Target: target, Host: "h", Fields: l, Body: body}
}

// short is the beginning of x as a text for messages.
func short(x any) string {
	s := fmt.Sprintf("%+v", x)
	return s[:min(len(s), 300)]
}

// same reports whether two requests are the same.
func same(a, b api.Request) bool {
	return a.Id == b.Id && a.Method == b.Method && a.Target == b.Target && a.Host == b.Host && a.Body == b.Body && slices.Equal(a.Fields, b.Fields)
}

// numbers returns numbers below n that look like random ones.
func numbers(seed uint64) func(n int) int {
	return func(n int) int {
		seed = seed*6364136223846793005 + 1442695040888963407
		return int(seed >> 33 % uint64(n))
	}
}

// each calls f with all strings of at most n of the bytes of alphabet.
func each(alphabet string, n int, f func(s string)) {
	f("")
	if n == 0 {
		return
	}
	for i := range len(alphabet) {
		each(alphabet, n-1, func(s string) { f(alphabet[i:i+1] + s) })
	}
}

// isOne reports whether s is, with case, one of some words.
func isOne(s, words string) bool { return slices.Contains(strings.Fields(words), s) }

// target is the error of a target.
func target(s string) api.Errno {
	if len(s) > 500 {
		return api.ErrLong
	}
	if !targetLike.MatchString(s) {
		return api.ErrForm
	}
	return api.OK
}

// split is what Split should return.
func split(s string) (path, query string, has bool, e api.Errno) {
	if e := target(s); e != api.OK {
		return "", "", false, e
	}
	m := targetLike.FindStringSubmatch(s)
	return m[1], m[3], m[2] != "", api.OK
}

// clean is what Clean should return.
func clean(s string) (string, api.Errno) {
	path, query, has, e := split(s)
	if e != api.OK {
		return "", e
	}
	path = removeDots(pairLike.ReplaceAllStringFunc(path, decode))
	if has {
		path += "?" + pairLike.ReplaceAllStringFunc(query, decode)
	}
	return path, api.OK
}

// decode is the normal form of a percent-encoded byte.
func decode(pair string) string {
	n, _ := strconv.ParseUint(pair[1:], 16, 8)
	if s := string([]byte{byte(n)}); plainLike.MatchString(s) {
		return s
	}
	return strings.ToUpper(pair)
}

// removeDots is remove_dot_segments of RFC 3986, with its two buffers, for an input that begins with a slash.
func removeDots(in string) string {
	out := ""
	for in != "" {
		switch {
		case strings.HasPrefix(in, "/./"):
			in = in[2:]
		case in == "/.":
			in = "/"
		case strings.HasPrefix(in, "/../"):
			in, out = in[3:], out[:max(0, strings.LastIndex(out, "/"))]
		case in == "/..":
			in, out = "/", out[:max(0, strings.LastIndex(out, "/"))]
		default:
			n := len(in)
			if i := strings.Index(in[1:], "/"); i >= 0 {
				n = i + 1
			}
			in, out = in[n:], out+in[:n]
		}
	}
	return out
}

// lines is the lines of fields, and the empty line.
func lines(l []api.HdField) string {
	s := ""
	for _, f := range l {
		s += f.Name + ": " + f.Value + "\r\n"
	}
	return s + "\r\n"
}

// written is the fields that are written for a request, whose fields have no error.
func written(r api.Request) []api.HdField {
	l := fields("Host", r.Host, "X-Request-Id", strconv.FormatInt(r.Id, 10))
	kept, _ := headers.Strip(r.Fields)
	l = append(l, kept...)
	if r.Body != "" || isOne(r.Method, "POST PUT PATCH") {
		l = append(l, field("Content-Length", strconv.Itoa(len(r.Body))))
	}
	return l
}

// checkOfFields is the error of the fields of a request.
func checkOfFields(r api.Request) api.Errno {
	if e := headers.Check(r.Fields); e != api.OK {
		return e
	}
	for _, f := range r.Fields {
		if isOne(strings.ToLower(f.Name), "host x-request-id content-length transfer-encoding") {
			return api.ErrTwice
		}
	}
	if _, e := headers.Strip(r.Fields); e != api.OK {
		return e
	}
	return headers.Check(written(r))
}

// check is what Check should return.
func check(r api.Request) (part string, e api.Errno) {
	switch {
	case r.Id < 1 || r.Id > 1000000000:
		return "id", api.ErrRange
	case !methodLike.MatchString(r.Method):
		return "method", api.ErrForm
	case r.Method == "CONNECT":
		return "method", api.ErrDown
	case target(r.Target) != api.OK:
		return "target", target(r.Target)
	case !hostLike.MatchString(r.Host):
		return "host", api.ErrForm
	case checkOfFields(r) != api.OK:
		return "fields", checkOfFields(r)
	case len(r.Body) > 65536:
		return "body", api.ErrLong
	case r.Body != "" && isOne(r.Method, "GET HEAD TRACE"):
		return "body", api.ErrArg
	}
	return "", api.OK
}

// encode is what Encode should return.
func encode(r api.Request) (string, api.Errno) {
	if _, e := check(r); e != api.OK {
		return "", e
	}
	return r.Method + " " + r.Target + " HTTP/1.1\r\n" + lines(written(r)) + r.Body, api.OK
}

// values is the values of the fields with a name, which is in lower case.
func values(l []api.HdField, name string) []string {
	var all []string
	for _, f := range l {
		if strings.ToLower(f.Name) == name {
			all = append(all, f.Value)
		}
	}
	return all
}

// head is what Parse should say of all fields of a message: the error, and how many bytes the body has.
func head(l []api.HdField) (length int, e api.Errno) {
	hosts, ids, lengths := values(l, "host"), values(l, "x-request-id"), values(l, "content-length")
	if len(hosts) != 1 || len(ids) != 1 || len(lengths) > 1 || len(values(l, "transfer-encoding")) > 0 {
		return 0, api.ErrForm
	}
	for _, s := range append(ids, lengths...) {
		if !naturalLike.MatchString(s) {
			return 0, api.ErrForm
		}
	}
	for _, s := range lengths {
		n, _ := new(big.Int).SetString(s, 10)
		if n.Cmp(big.NewInt(65536)) > 0 {
			return 0, api.ErrLong
		}
		length = int(n.Int64())
	}
	return length, api.OK
}

// parse is what Parse should return.
func parse(b []byte) (api.Request, int, api.Errno) {
	line, rest, found := strings.Cut(string(b), "\n")
	line += "\n"
	m := lineLike.FindStringSubmatch(line)
	switch {
	case !found && len(b) < 1024:
		return api.Request{}, 0, api.ErrMore
	case !found || len(line) > 1024:
		return api.Request{}, 0, api.ErrLong
	case m == nil:
		return api.Request{}, 0, api.ErrForm
	}
	l, lines, e := headers.Parse([]byte(rest))
	if e != api.OK {
		return api.Request{}, 0, e
	}
	length, e := head(l)
	if e != api.OK {
		return api.Request{}, 0, e
	}
	r := api.Request{Method: m[1], Target: m[2], Host: values(l, "host")[0]}
	if id, _ := new(big.Int).SetString(values(l, "x-request-id")[0], 10); id.IsInt64() {
		r.Id = id.Int64()
	}
	r.Fields = slices.DeleteFunc(l, func(f api.HdField) bool {
		return isOne(strings.ToLower(f.Name), "host x-request-id content-length")
	})
	if _, e := check(r); e != api.OK {
		return api.Request{}, 0, e
	}
	if length > 0 && isOne(r.Method, "GET HEAD TRACE") {
		return api.Request{}, 0, api.ErrArg
	}
	if len(rest) < lines+length {
		return api.Request{}, 0, api.ErrMore
	}
	r.Body = rest[lines : lines+length]
	return r, len(line) + lines + length, api.OK
}

// feed is what Feed should return.
func feed(b []byte) (l []api.Request, left []byte, e api.Errno) {
	r, used, e := parse(b)
	switch e {
	case api.OK:
		l, left, e = feed(b[used:])
		return append([]api.Request{r}, l...), left, e
	case api.ErrMore:
		return nil, b, api.OK
	}
	return nil, nil, e
}

// key is what Key should return.
func key(r api.Request, kind int, name string) (string, api.Errno) {
	if kind < 1 || kind > 3 || kind == 3 && !tokenLike.MatchString(name) || kind != 3 && name != "" {
		return "", api.ErrArg
	}
	if _, e := check(r); e != api.OK {
		return "", e
	}
	switch kind {
	case 1:
		s, _ := clean(r.Target)
		path, _, _, _ := split(s)
		return path, api.OK
	case 2:
		return r.Host, api.OK
	}
	if all := values(r.Fields, strings.ToLower(name)); len(all) > 0 {
		return all[0], api.OK
	}
	return "", api.ErrNone
}

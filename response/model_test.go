package response_test

import (
	"fmt"
	"regexp"
	"slices"
	"strconv"
	"strings"

	"spillway/api"
	"spillway/chunks"
	"spillway/headers"
)

var (
	// tokenLike finds tokens.
	tokenLike = regexp.MustCompile("^[-0-9A-Za-z!#$%&'*+.^_`|~]{1,64}$")
	// lineLike finds status lines, but for their length.
	lineLike = regexp.MustCompile(`^HTTP/1\.([01]) ([1-5][0-9]{2}) ([\t -~]*)\r\n$`)
	// textLike finds reasons.
	textLike = regexp.MustCompile(`^[\t -~]*$`)
	// chunkedLike and lengthsLike find what the values of all fields may be, with commas between them.
	chunkedLike = regexp.MustCompile(`^[\t ,]*(?i:chunked)[\t ,]*$`)
	lengthsLike = regexp.MustCompile(`^[\t ,]*[0-9]{1,10}([\t ]*,[\t ,]*[0-9]{1,10})*[\t ,]*$`)
	// valueLike finds values of bytes that they may have, and elementLike their elements, with blanks.
	valueLike   = regexp.MustCompile(`^(?:[^"]|"(?:[^"\\]|\\.)*")*$`)
	elementLike = regexp.MustCompile(`(?:[^",]|"(?:[^"\\]|\\.)*")+`)
)

// field returns a field.
func field(name, value string) api.HdField { return api.HdField{Name: name, Value: value} }

// fields returns fields with these names and values in turn.
func fields(all ...string) []api.HdField {
	var l []api.HdField
	for i := 0; i < len(all); i += 2 {
		l = append(l, field(all[i], all[i+1]))
	}
	return l
}

// lines is the lines of fields.
func lines(l []api.HdField) string {
	s := ""
	for _, f := range l {
		s += f.Name + ": " + f.Value + "\r\n"
	}
	return s + "\r\n"
}

// long returns fields whose lines have n bytes, n at least 1000.
func long(n int) []api.HdField {
	var l []api.HdField
	for n -= 2; n >= 2000; n -= 1000 {
		l = append(l, field("long", strings.Repeat("v", 1000-8)))
	}
	return append(l, field("rest", strings.Repeat("w", n-8)))
}

// final returns a head with a status, for HTTP/1.1, and with fields.
func final(status int, all ...string) api.RsHead {
	return api.RsHead{Minor: 1, Status: status, Reason: "OK", Fields: fields(all...)}
}

// text is the bytes of a head.
func text(h api.RsHead) string {
	return fmt.Sprintf("HTTP/1.%d %03d %s\r\n", h.Minor, h.Status, h.Reason) + lines(h.Fields)
}

// chunk is a chunk without an extension.
func chunk(data string) string { return fmt.Sprintf("%x\r\n%s\r\n", len(data), data) }

// numbers returns numbers below n that look like random ones.
func numbers(seed uint64) func(n int) int {
	return func(n int) int {
		seed = seed*6364136223846793005 + 1442695040888963407
		return int(seed >> 33 % uint64(n))
	}
}

// each calls f with all strings of at most n of these parts.
func each(parts []string, n int, f func(s string)) {
	f("")
	if n == 0 {
		return
	}
	for _, part := range parts {
		each(parts, n-1, func(s string) { f(part + s) })
	}
}

// short is the beginning of x as a text for messages.
func short(x any) string {
	s := fmt.Sprintf("%+q", x)
	return s[:min(len(s), 300)]
}

// sameHead reports whether two heads are the same.
func sameHead(a, b api.RsHead) bool {
	return a.Minor == b.Minor && a.Status == b.Status && a.Reason == b.Reason && slices.Equal(a.Fields, b.Fields)
}

// sameChunks reports whether two states of readers of chunks are the same.
func sameChunks(a, b api.ChState) bool {
	return a.Phase == b.Phase && a.Line == b.Line && a.Data == b.Data && a.Left == b.Left && slices.Equal(a.Trailers, b.Trailers)
}

// same reports whether two states are the same.
func same(a, b api.RsState) bool {
	return a.Method == b.Method && a.Phase == b.Phase && a.Infos == b.Infos && a.Line == b.Line && sameHead(a.Head, b.Head) &&
		a.Framing == b.Framing && a.Body == b.Body && a.Left == b.Left && sameChunks(a.Chunks, b.Chunks)
}

// sameResponse reports whether two responses are the same.
func sameResponse(a, b api.RsResponse) bool {
	return sameHead(a.Head, b.Head) && a.Framing == b.Framing && a.Body == b.Body && slices.Equal(a.Trailers, b.Trailers) && a.Keep == b.Keep
}

// head is what Head should return.
func head(s string) (h api.RsHead, used int, e api.Errno) {
	line, rest, found := strings.Cut(s, "\n")
	if len(line) > 301 {
		return h, 0, api.ErrLong
	}
	if !found {
		return h, 0, api.ErrMore
	}
	m := lineLike.FindStringSubmatch(line + "\n")
	if m == nil {
		return h, 0, api.ErrForm
	}
	l, n, e := headers.Parse([]byte(rest))
	if e != api.OK {
		return h, 0, e
	}
	h.Minor, _ = strconv.Atoi(m[1])
	h.Status, _ = strconv.Atoi(m[2])
	h.Reason, h.Fields = m[3], l
	return h, len(line) + 1 + n, api.OK
}

// joined is the values of all fields with a name, with commas between them, and whether there are any.
func joined(l []api.HdField, name string) (string, bool) {
	var all []string
	for _, f := range l {
		if strings.EqualFold(f.Name, name) {
			all = append(all, f.Value)
		}
	}
	return strings.Join(all, ","), all != nil
}

// framing is what Framing should return.
func framing(method string, h api.RsHead) (kind, length int, e api.Errno) {
	if !tokenLike.MatchString(method) {
		return 0, 0, api.ErrArg
	}
	if h.Minor < 0 || h.Minor > 1 || h.Status < 100 || h.Status > 599 {
		return 0, 0, api.ErrForm
	}
	if e := headers.Check(h.Fields); e != api.OK {
		return 0, 0, e
	}
	if method == "HEAD" || h.Status/100 == 1 || h.Status == 204 || h.Status == 304 {
		return api.RsNone, 0, api.OK
	}
	lengths, counted := joined(h.Fields, "content-length")
	codings, coded := joined(h.Fields, "transfer-encoding")
	switch {
	case coded && !counted && h.Minor == 1 && chunkedLike.MatchString(codings):
		return api.RsChunked, 0, api.OK
	case coded || counted && !lengthsLike.MatchString(lengths):
		return 0, 0, api.ErrForm
	case counted:
		return counts(lengths)
	}
	return api.RsClose, 0, api.OK
}

// counts is the framing that lengths say, with commas between them.
func counts(s string) (kind, length int, e api.Errno) {
	all := regexp.MustCompile(`[0-9]+`).FindAllString(s, -1)
	for i, a := range all {
		all[i] = strings.TrimLeft(a, "0")
		if all[i] != all[0] {
			return 0, 0, api.ErrForm
		}
	}
	n, _ := strconv.ParseInt("0"+all[0], 10, 64)
	if n > 65536 {
		return 0, 0, api.ErrLong
	}
	return api.RsLength, int(n), api.OK
}

// kept is whether a connection is kept after a response.
func kept(h api.RsHead, framing int) bool {
	alive, closed := h.Minor == 1, framing == api.RsClose
	for _, f := range h.Fields {
		if !strings.EqualFold(f.Name, "connection") {
			continue
		}
		closed = closed || !valueLike.MatchString(f.Value)
		for _, s := range elementLike.FindAllString(f.Value, -1) {
			s = strings.ToLower(strings.Trim(s, "\t "))
			alive, closed = alive || s == "keep-alive", closed || s == "close"
		}
	}
	return alive && !closed
}

// readHead is what the first beginning of s for which head does not ask for more is, if there is one.
func readHead(s string) (h api.RsHead, used int, e api.Errno) {
	for n := range len(s) {
		if h, used, e := head(s[:n+1]); e != api.ErrMore {
			return h, used, e
		}
	}
	return h, 0, api.ErrMore
}

// read is the state to which the bytes of s lead from the beginning on, and how many are read; it has a part of the response at a time, where Feed has a byte. With an error, the rest has no meaning.
func read(method, s string) (x api.RsState, used int, e api.Errno) {
	x.Method = method
	rest := s
	for x.Head.Status < 200 {
		h, n, e := readHead(rest)
		if e == api.ErrMore {
			x.Line, x.Head = rest, api.RsHead{}
			return x, len(s), api.OK
		}
		if e == api.OK && h.Status == 101 {
			e = api.ErrForm
		}
		if e == api.OK && h.Status < 200 && x.Infos == 10 {
			e = api.ErrLong
		}
		if e != api.OK {
			return x, 0, e
		}
		if h.Status < 200 {
			x.Infos++
		}
		x.Head, rest = h, rest[n:]
	}
	left, e := readContent(&x, rest)
	return x, len(s) - len(left), e
}

// readContent reads the content behind a head, and returns the bytes behind that.
func readContent(x *api.RsState, s string) (left string, e api.Errno) {
	kind, length, e := framing(x.Method, x.Head)
	if e != api.OK {
		return "", e
	}
	x.Framing, x.Phase = kind, api.RsBody
	whole := true
	switch kind {
	case api.RsLength:
		x.Body = s[:min(length, len(s))]
		x.Left = length - len(x.Body)
		s, whole = s[len(x.Body):], x.Left == 0
	case api.RsChunked:
		y, n, e := chunks.Feed(chunks.Start(), []byte(s))
		if e != api.OK {
			return "", e
		}
		x.Chunks = y
		s, whole = s[n:], y.Phase == api.ChDone
	case api.RsClose:
		if len(s) > 65536 {
			return "", api.ErrLong
		}
		x.Body = s
		s, whole = "", false
	}
	if whole {
		x.Phase = api.RsWhole
	}
	return s, api.OK
}

// leadChunks is bytes that lead to the state of a reader of chunks, if any do.
func leadChunks(x api.ChState) string {
	s := ""
	if x.Data != "" {
		s = chunk(x.Data)
	}
	switch x.Phase {
	case api.ChSize:
		return s + x.Line
	case api.ChData:
		return s + fmt.Sprintf("%x\r\n", x.Left)
	case api.ChEnd:
		return strings.TrimSuffix(s, "\r\n") + x.Line
	case api.ChTrailer:
		return s + "0\r\n" + x.Line
	case api.ChDone:
		return s + "0\r\n" + lines(x.Trailers)
	}
	return ""
}

// lead is bytes that lead to a state from the beginning on, if any do, but for the end of the connection.
func lead(x api.RsState) string {
	s := strings.Repeat("HTTP/1.1 100 \r\n\r\n", min(max(x.Infos, 0), 11))
	if x.Phase == api.RsHeading {
		return s + x.Line
	}
	return s + text(x.Head) + x.Body + leadChunks(x.Chunks)
}

// reached is whether reading can lead to a state.
func reached(x api.RsState) bool {
	y, used, e := read(x.Method, lead(x))
	if y.Phase == api.RsBody && y.Framing == api.RsClose && x.Phase == api.RsWhole {
		y.Phase = api.RsWhole
	}
	return e == api.OK && used == len(lead(x)) && same(x, y) && tokenLike.MatchString(x.Method)
}

// feed is what Feed should return.
func feed(x api.RsState, b string) (api.RsState, int, api.Errno) {
	if !reached(x) {
		return x, 0, api.ErrArg
	}
	if x.Phase == api.RsWhole {
		return x, 0, api.OK
	}
	y, used, e := read(x.Method, lead(x)+b)
	if e != api.OK {
		return x, 0, e
	}
	return y, used - len(lead(x)), api.OK
}

// end is what End should return.
func end(x api.RsState) (api.RsState, api.Errno) {
	switch {
	case !reached(x):
		return x, api.ErrArg
	case x.Phase == api.RsWhole:
		return x, api.OK
	case x.Phase == api.RsBody && x.Framing == api.RsClose:
		x.Phase = api.RsWhole
		return x, api.OK
	}
	return x, api.ErrMore
}

// responseOf is what Response should return.
func responseOf(x api.RsState) (r api.RsResponse, e api.Errno) {
	if !reached(x) {
		return r, api.ErrArg
	}
	if x.Phase != api.RsWhole {
		return r, api.ErrDown
	}
	// One of Body and Data is empty.
	r = api.RsResponse{Head: x.Head, Framing: x.Framing, Body: x.Body + x.Chunks.Data, Trailers: x.Chunks.Trailers, Keep: kept(x.Head, x.Framing)}
	return r, api.OK
}

// printed is what Print should return.
func printed(h api.RsHead, body string, kind int) (string, api.Errno) {
	if h.Minor < 0 || h.Minor > 1 || h.Status < 100 || h.Status > 599 {
		return "", api.ErrForm
	}
	if e := headers.Check(h.Fields); e != api.OK {
		return "", e
	}
	_, counted := joined(h.Fields, "content-length")
	_, coded := joined(h.Fields, "transfer-encoding")
	if counted || coded || !textLike.MatchString(h.Reason) {
		return "", api.ErrForm
	}
	if kind < 0 || kind > 3 || kind == 0 && body != "" || kind == 2 && h.Minor == 0 {
		return "", api.ErrArg
	}
	if len(body) > 65536 || len(h.Reason) > 287 {
		return "", api.ErrLong
	}
	h = framed(h, body, kind)
	if len(h.Fields) > 100 || len(lines(h.Fields)) > 8192 {
		return "", api.ErrLong
	}
	if kind == api.RsChunked {
		data := chunk(body)
		if body == "" {
			data = ""
		}
		body = data + "0\r\n\r\n"
	}
	return text(h) + body, api.OK
}

// framed is a head with the field that Print adds.
func framed(h api.RsHead, body string, kind int) api.RsHead {
	h.Fields = slices.Clone(h.Fields)
	switch kind {
	case api.RsLength:
		h.Fields = append(h.Fields, field("Content-Length", strconv.Itoa(len(body))))
	case api.RsChunked:
		h.Fields = append(h.Fields, field("Transfer-Encoding", "chunked"))
	}
	return h
}

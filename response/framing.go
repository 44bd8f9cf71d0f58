package response

import (
	"slices"
	"strconv"

	"spillway/api"
	"spillway/chunks"
	"spillway/headers"
	"spillway/tokens"
)

// Names of the fields that say how the end of a response is found, and whether its connection is kept, in lower case.
const (
	lengthName     = "content-length"
	encodingName   = "transfer-encoding"
	connectionName = "connection"
)

const (
	chunked         = "chunked"
	maxLengthDigits = 10
)

// framingOf returns the framing of a head without errors, for a method.
func framingOf(method string, h api.RsHead) (kind, length int, e api.Errno) {
	// One that does not apply returns ErrNone.
	framings := []func() (kind, length int, e api.Errno){
		func() (int, int, api.Errno) {
			if !isBare(method, h.Status) {
				return 0, 0, api.ErrNone
			}
			return api.RsNone, 0, api.OK
		},
		func() (int, int, api.Errno) {
			if !isThere(h.Fields, encodingName) {
				return 0, 0, api.ErrNone
			}
			if !isChunked(h) {
				return 0, 0, api.ErrForm
			}
			return api.RsChunked, 0, api.OK
		},
		func() (int, int, api.Errno) {
			if !isThere(h.Fields, lengthName) {
				return 0, 0, api.ErrNone
			}
			n, e := lengthOf(h)
			if e != api.OK {
				return 0, 0, e
			}
			return api.RsLength, n, api.OK
		},
	}
	for _, next := range framings {
		if kind, length, e := next(); e != api.ErrNone {
			return kind, length, e
		}
	}
	return api.RsClose, 0, api.OK
}

// isBare reports whether a response has no content, whatever its fields say.
func isBare(method string, status int) bool {
	return method == "HEAD" || status < minFinal || status == 204 || status == 304
}

// isChunked reports whether a head with a field transfer-encoding says that the content is in chunks, and nothing else about it.
func isChunked(h api.RsHead) bool {
	codings, ok := elements(h.Fields, encodingName)
	return ok && h.Minor == 1 && !isThere(h.Fields, lengthName) && len(codings) == 1 && hasElement(codings, chunked)
}

// lengthOf returns the length that a head with a field content-length says.
func lengthOf(h api.RsHead) (int, api.Errno) {
	lengths, ok := elements(h.Fields, lengthName)
	if !ok || len(lengths) == 0 {
		return 0, api.ErrForm
	}
	first, _ := number(lengths[0], maxLengthDigits)
	for _, s := range lengths {
		if n, ok := number(s, maxLengthDigits); !ok || n != first {
			return 0, api.ErrForm
		}
	}
	if first > api.MaxBody {
		return 0, api.ErrLong
	}
	return int(first), api.OK
}

// isKept reports whether a connection is kept after a response.
func isKept(h api.RsHead, framing int) bool {
	options, ok := elements(h.Fields, connectionName)
	if !ok || framing == api.RsClose || hasElement(options, "close") {
		return false
	}
	return h.Minor == 1 || hasElement(options, "keep-alive")
}

// canFrame reports whether a response with this version and content can be written by a kind of framing, but for the length of the content.
func canFrame(kind, minor int, body []byte) bool {
	switch kind {
	case api.RsNone:
		return len(body) == 0
	case api.RsChunked:
		return minor == 1
	}
	return kind == api.RsLength || kind == api.RsClose
}

// withFraming returns fields with the one that says a framing for n bytes of content, if it needs any.
func withFraming(l []api.HdField, kind, n int) ([]api.HdField, api.Errno) {
	switch kind {
	case api.RsLength:
		return headers.Add(l, api.HdField{Name: "Content-Length", Value: strconv.Itoa(n)})
	case api.RsChunked:
		return headers.Add(l, api.HdField{Name: "Transfer-Encoding", Value: chunked})
	}
	return l, api.OK
}

// contentOf returns content as it is written by a kind of framing, which has not too many bytes.
func contentOf(body []byte, kind int) []byte {
	if kind != api.RsChunked {
		return body
	}
	// All of the content is one chunk, if there is any.
	sizes, _ := chunks.Cut(len(body), api.MaxBody)
	b, _ := chunks.Encode(body, sizes, nil)
	return b
}

// elements returns the elements of the values of all fields with a name, and whether these are values; the fields have no errors.
func elements(l []api.HdField, name string) (all []string, ok bool) {
	values, _ := headers.Get(l, name)
	for _, v := range values {
		more, e := tokens.Elements(v)
		if e != api.OK {
			return nil, false
		}
		all = append(all, more...)
	}
	return all, true
}

// isThere reports whether one of the fields, which have no errors, has a name.
func isThere(l []api.HdField, name string) bool {
	values, _ := headers.Get(l, name)
	return len(values) > 0
}

// hasElement reports whether an element is, without case, a name that is in lower case.
func hasElement(l []string, name string) bool {
	return slices.ContainsFunc(l, func(s string) bool { return tokens.Fold(s) == name })
}

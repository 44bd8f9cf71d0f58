package message

import (
	"math"

	"spillway/api"
	"spillway/response"
)

// reader is a reader of a response with the limits of it.
type reader struct {
	in                 api.RsState
	maxHeader, maxBody int
}

func readerOf(s api.MsState) reader {
	return reader{in: s.In, maxHeader: s.MaxHeader, maxBody: s.MaxBody}
}

func (r *reader) isWhole() bool { return r.in.Phase == api.RsWhole }

func (r *reader) isAtBeginning() bool {
	return r.in.Phase == api.RsHeading && r.in.Line == "" && r.in.Infos == 0
}

// keepsLimits reports whether the head and the content that the reader has are not above the limits.
func (r *reader) keepsLimits() bool {
	content := len(r.in.Body) + len(r.in.Chunks.Data)
	return len(r.in.Line) <= r.maxHeader && content+r.in.Left <= r.maxBody
}

// room returns how many bytes may follow before it has to be known whether they have ended a head.
func (r *reader) room() int {
	if r.in.Phase == api.RsHeading {
		return r.maxHeader - len(r.in.Line)
	}
	return math.MaxInt
}

// read reads bytes up to one with a fault, or to the end of the response, and returns those that are left, and the kind of the fault.
func (r *reader) read(s string) (left string, why api.FaKind) {
	give := func(n int) api.FaKind {
		next := *r
		in, used, e := response.Feed(r.in, []byte(s[:n]))
		next.in = in
		switch {
		case e == api.ErrForm:
			return api.FaMalformed
		case e != api.OK || !next.keepsLimits():
			return api.FaTooLarge
		}
		*r, s = next, s[used:]
		return 0
	}
	// A part of many bytes leads to the same as its bytes one by one, and has a fault if one of them has: smaller and smaller parts lead up to this byte.
	most := len(s)
	for s != "" && !r.isWhole() {
		n := min(most, len(s), r.room())
		if n == 0 {
			return s, api.FaTooLarge
		}
		why := give(n)
		if why != 0 && n == 1 {
			return s, why
		}
		if why != 0 {
			most = n / 2
		}
	}
	return s, 0
}

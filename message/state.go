package message

import (
	"strings"

	"spillway/api"
	"spillway/request"
	"spillway/response"
)

// isValid reports whether a state is one of an exchange.
func isValid(s api.MsState) bool {
	return hasRequest(s) && hasReader(s) && hasPhase(s)
}

// hasRequest reports whether a state has a request, its message, and how many bytes of it were written.
func hasRequest(s api.MsState) bool {
	out, e := request.Encode(s.Request)
	return e == api.OK && s.Out == out && 0 <= s.Sent && s.Sent <= len(out)
}

// hasReader reports whether a state has limits, and a reader for its request that keeps them.
func hasReader(s api.MsState) bool {
	_, _, e := response.Feed(s.In, nil)
	if e != api.OK || s.In.Method != s.Request.Method || !areLimits(s.MaxHeader, s.MaxBody) {
		return false
	}
	r := readerOf(s)
	return r.keepsLimits() && (s.Sent > 0 || r.isAtBeginning())
}

func areLimits(maxHeader, maxBody int) bool {
	return api.MinCfHeader <= maxHeader && maxHeader <= api.MaxCfHeader && 0 <= maxBody && maxBody <= api.MaxBody
}

// hasPhase reports whether the phase of a state goes with its fault, its connection and its reader.
func hasPhase(s api.MsState) bool {
	r := readerOf(s)
	switch s.Phase {
	case api.MsOpen:
		return s.Why == 0 && !s.Ended && !r.isWhole()
	case api.MsDone:
		return s.Why == 0 && r.isWhole()
	case api.MsBroken:
		return isEnding(s.Why) == s.Ended && hasFault(s)
	}
	return false
}

// isEnding reports whether a kind of faults is one with which the connection ends.
func isEnding(why api.FaKind) bool {
	return why == api.FaClosed || why == api.FaTruncated || why == api.FaReset
}

// hasFault reports whether a reader can be where it is when the exchange is broken because of its fault.
func hasFault(s api.MsState) bool {
	r := readerOf(s)
	switch s.Why {
	case api.FaMalformed, api.FaTooLarge, api.FaReset:
		return !r.isWhole()
	case api.FaSurplus:
		// If nothing was sent, hasReader has found the reader at its beginning.
		return r.isWhole() || s.Sent == 0
	case api.FaClosed:
		return r.isAtBeginning()
	case api.FaTruncated:
		return !r.isAtBeginning() && !r.isWhole()
	}
	return aborts(s.Why) && !r.isWhole()
}

// copyOf returns a valid state in new memory.
func copyOf(s api.MsState) api.MsState {
	s.Request, s.Out = copyRequest(s.Request), strings.Clone(s.Out)
	// No bytes lead to the same reader.
	s.In, _, _ = response.Feed(s.In, nil)
	return s
}

// copyRequest returns a request in new memory.
func copyRequest(r api.Request) api.Request {
	r.Method, r.Target, r.Host, r.Body = strings.Clone(r.Method), strings.Clone(r.Target), strings.Clone(r.Host), strings.Clone(r.Body)
	var l []api.HdField
	for _, f := range r.Fields {
		l = append(l, api.HdField{Name: strings.Clone(f.Name), Value: strings.Clone(f.Value)})
	}
	r.Fields = l
	return r
}

package response

import (
	"spillway/api"
	"spillway/chunks"
	"spillway/tokens"
)

// isReachable reports whether reading, and the end of a connection, can lead to a state.
func isReachable(s api.RsState) bool {
	if !tokens.Token(s.Method) || s.Infos < 0 || s.Infos > api.MaxRsInfos {
		return false
	}
	switch s.Phase {
	case api.RsHeading:
		_, _, e := Head([]byte(s.Line))
		return e == api.ErrMore && isNone(s.Head) && s.Framing == 0 && hasNothing(s)
	case api.RsBody, api.RsWhole:
		return s.Line == "" && isFinal(s.Head) && hasContent(s)
	}
	return false
}

// isFinal reports whether a head can be one that is not passed over, but for its fields.
func isFinal(h api.RsHead) bool {
	return h.Status >= minFinal && isReason(h.Reason) && len(lineOf(h)) <= maxLine
}

// hasContent reports whether the content of a state so far is as its framing says, which is that of its head.
func hasContent(s api.RsState) bool {
	kind, length, e := Framing(s.Method, s.Head)
	if e != api.OK || kind != s.Framing {
		return false
	}
	whole := s.Phase == api.RsWhole
	switch kind {
	case api.RsLength:
		left := length - len(s.Body)
		return left >= 0 && s.Left == left && whole == (left == 0) && isStart(s.Chunks)
	case api.RsChunked:
		done := s.Chunks.Phase == api.ChDone
		return s.Body == "" && s.Left == 0 && whole == done && chunks.Check(s.Chunks) == api.OK
	case api.RsClose:
		return len(s.Body) <= api.MaxBody && s.Left == 0 && isStart(s.Chunks)
	}
	return whole && hasNothing(s)
}

// hasNothing reports whether there is no content in a state, and none that is left.
func hasNothing(s api.RsState) bool {
	return s.Body == "" && s.Left == 0 && isStart(s.Chunks)
}

func isNone(h api.RsHead) bool {
	return h.Minor == 0 && h.Status == 0 && h.Reason == "" && len(h.Fields) == 0
}

// isStart reports whether no chunk has been read.
func isStart(s api.ChState) bool {
	start := chunks.Start()
	return s.Phase == start.Phase && s.Line == start.Line && s.Data == start.Data && s.Left == start.Left && len(s.Trailers) == 0
}

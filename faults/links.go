package faults

import (
	"strings"

	"spillway/api"
	"spillway/words"
)

const (
	lastBackend = api.MaxBackends - 1
	lastConn    = 1000000000
)

// kindNames are the names of the kinds.
var kindNames = [api.FaKinds]string{
	api.FaShutdown:  "shutdown",
	api.FaNoBackend: "no-backend",
	api.FaQueueFull: "queue-full",
	api.FaDeadline:  "deadline",
	api.FaCanceled:  "canceled",
	api.FaDial:      "dial",
	api.FaRefused:   "refused",
	api.FaReset:     "reset",
	api.FaTruncated: "truncated",
	api.FaMalformed: "malformed",
	api.FaTooLarge:  "too-large",
	api.FaSurplus:   "surplus",
	api.FaOpen:      "open",
	api.FaDown:      "down",
	api.FaClosed:    "closed",
	api.FaExhausted: "exhausted",
}

// sentinel is the error that stands for a kind: two of them are the same if their kinds are.
type sentinel api.FaKind

// Error returns the name of the kind.
func (s sentinel) Error() string {
	return kindNames[s]
}

// isKind reports whether kind is one of the kinds.
func isKind(kind api.FaKind) bool {
	return kind >= 1 && kind < api.FaKinds
}

// kindOf returns the kind with a name, or 0.
func kindOf(name string) api.FaKind {
	for kind, known := range kindNames {
		if name == known {
			return api.FaKind(kind)
		}
	}
	return 0
}

// checkLink returns what is wrong with a link.
func checkLink(l api.FaLink) api.Errno {
	if !words.Name(l.Op) {
		return api.ErrForm
	}
	if !inRange(l) {
		return api.ErrRange
	}
	return api.OK
}

// inRange reports whether the numbers of a link are ones that it may have.
func inRange(l api.FaLink) bool {
	return isKind(l.Kind) && l.Backend >= -1 && l.Backend <= lastBackend && l.Conn >= 0 && l.Conn <= lastConn
}

// textOf returns the text of a link without its cause.
func textOf(l api.FaLink) string {
	s := l.Op
	if l.Backend != -1 {
		s += " on " + words.Digits(int64(l.Backend))
	}
	if l.Conn != 0 {
		s += " over " + words.Digits(l.Conn)
	}
	return s + ": " + kindNames[l.Kind]
}

// copied returns l in new memory.
func copied(l api.FaLink) api.FaLink {
	l.Op = strings.Clone(l.Op)
	return l
}

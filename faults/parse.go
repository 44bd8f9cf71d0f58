package faults

import (
	"strings"

	"spillway/api"
	"spillway/words"
)

// Parse returns the fault with a text.
func Parse(s string) (error, api.Errno) {
	r := reader{rest: s}
	if !r.read() {
		return nil, api.ErrForm
	}
	if r.far {
		return nil, api.ErrRange
	}
	if r.wide || tooLarge(r.nodes) {
		return nil, api.ErrLong
	}
	err, _ := grow(r.nodes, 0)
	return err, api.OK
}

// reader reads a text from left to right. The text may have any number of nodes and any depth: so the reader keeps nodes only as far as a fault has them, and does not call itself.
type reader struct {
	rest string
	// open has one count for each node that the next one is below: for a join, how many of its faults have begun (at most tooWide); for a link, linkOpen.
	open  []uint8
	nodes []api.FaNode
	far   bool // a number is greater than it may be
	wide  bool // a join has more faults than it may have
}

const (
	linkOpen = 0
	tooWide  = api.MaxFaJoin + 1
)

// read reads the whole text, and reports whether it has the required form.
func (r *reader) read() bool {
	for r.readNode() {
		if r.skip("; ") {
			r.open = append(r.open, linkOpen)
			continue
		}
		if !r.readEnds() {
			return false
		}
		if len(r.open) == 0 {
			return r.rest == ""
		}
		if !r.skip(" & ") {
			return false
		}
		last := len(r.open) - 1
		r.open[last] = min(r.open[last]+1, tooWide)
	}
	return false
}

// readNode reads a link, with the beginnings of the joins whose first fault it is in.
func (r *reader) readNode() bool {
	for r.skip("(") {
		r.keep(api.FaNode{Depth: len(r.open)})
		r.open = append(r.open, 1)
	}
	link, ok := r.readLink()
	r.keep(api.FaNode{Depth: len(r.open), Link: link})
	return ok
}

// readEnds reads the ends of all nodes that end here: a link has none of its own, but ends with its cause.
func (r *reader) readEnds() bool {
	for len(r.open) > 0 {
		depth := len(r.open) - 1
		count := r.open[depth]
		if count != linkOpen {
			if !r.skip(")") {
				return true
			}
			if count == 1 {
				return false
			}
			r.endJoin(depth, count)
		}
		r.open = r.open[:depth]
	}
	return true
}

// endJoin notes how many faults the last join of a depth has.
func (r *reader) endJoin(depth int, count uint8) {
	r.wide = r.wide || count == tooWide
	for i := len(r.nodes) - 1; i >= 0; i-- {
		if r.nodes[i].Depth == depth {
			r.nodes[i].Joined = int(count)
			return
		}
	}
}

// keep appends a node, unless there are too many already.
func (r *reader) keep(n api.FaNode) {
	if len(r.nodes) <= api.MaxFaNodes {
		r.nodes = append(r.nodes, n)
	}
}

// readLink reads the text of a link.
func (r *reader) readLink() (l api.FaLink, ok bool) {
	l = api.FaLink{Op: r.until(" :"), Backend: -1}
	if !words.Name(l.Op) {
		return l, false
	}
	if r.skip(" on ") {
		n, ok := r.number(0, lastBackend)
		if !ok {
			return l, false
		}
		l.Backend = int(n)
	}
	if r.skip(" over ") {
		if l.Conn, ok = r.number(1, lastConn); !ok {
			return l, false
		}
	}
	if !r.skip(": ") {
		return l, false
	}
	l.Kind = kindOf(r.until("; )"))
	return l, isKind(l.Kind)
}

// number reads a number from low on; one that is greater than high is far.
func (r *reader) number(low, high int64) (n int64, ok bool) {
	after := strings.TrimLeft(r.rest, "0123456789")
	digits := r.rest[:len(r.rest)-len(after)]
	r.rest = after
	n, e := words.Int(digits, 0, high)
	if e == api.ErrRange {
		r.far = true
		return high, true
	}
	return n, e == api.OK && n >= low
}

// skip reads s, if it comes next.
func (r *reader) skip(s string) bool {
	rest, ok := strings.CutPrefix(r.rest, s)
	r.rest = rest
	return ok
}

// until reads what comes before the next one of the bytes of ends.
func (r *reader) until(ends string) string {
	n := strings.IndexAny(r.rest, ends)
	if n < 0 {
		n = len(r.rest)
	}
	s := r.rest[:n]
	r.rest = r.rest[n:]
	return s
}

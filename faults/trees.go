package faults

import (
	"slices"

	"spillway/api"
	"spillway/words"
)

// newLink returns the link with a cause.
func newLink(l api.FaLink, cause error) error {
	link := &Link{link: copied(l), cause: cause}
	link.self = link
	return link
}

// newJoined returns the join of errs.
func newJoined(errs []error) error {
	joined := &Joined{faults: slices.Clone(errs)}
	joined.self = joined
	return joined
}

// made reports whether this package has made l.
func (l *Link) made() bool {
	return l != nil && l.self == l
}

// made reports whether this package has made j.
func (j *Joined) made() bool {
	return j != nil && j.self == j
}

// isFault reports whether err is a fault.
func isFault(err error) bool {
	switch x := err.(type) {
	case *Link:
		return x.made()
	case *Joined:
		return x.made()
	}
	return false
}

// allFaults reports whether each of errs is a fault.
func allFaults(errs []error) bool {
	for _, err := range errs {
		if !isFault(err) {
			return false
		}
	}
	return true
}

// bounded returns err if its tree is within the limits.
func bounded(err error) (error, api.Errno) {
	if tooLarge(appendNodes(nil, err, 0)) {
		return nil, api.ErrLong
	}
	return err, api.OK
}

// tooLarge reports whether l has too many nodes, or one that is too deep.
func tooLarge(l []api.FaNode) bool {
	if len(l) > api.MaxFaNodes {
		return true
	}
	for _, n := range l {
		if n.Depth > api.MaxFaDepth {
			return true
		}
	}
	return false
}

// numbersInRange reports whether the numbers of all links of a chain are ones that they may have.
func numbersInRange(l []api.FaNode) bool {
	for _, n := range l {
		if n.Joined == 0 && !inRange(n.Link) {
			return false
		}
	}
	return true
}

// appendNodes appends the chain of err, whose root has this depth, to l.
func appendNodes(l []api.FaNode, err error, depth int) []api.FaNode {
	switch x := err.(type) {
	case *Link:
		l = append(l, api.FaNode{Depth: depth, Link: x.Fault()})
		l = appendNodes(l, x.Unwrap(), depth+1)
	case *Joined:
		faults := x.Unwrap()
		l = append(l, api.FaNode{Depth: depth, Joined: len(faults)})
		for _, fault := range faults {
			l = appendNodes(l, fault, depth+1)
		}
	}
	return l
}

// grow returns the fault whose chain l begins with, its root having this depth, and the rest of l; nil if l begins with none, whatever the numbers of links are.
func grow(l []api.FaNode, depth int) (err error, rest []api.FaNode) {
	if len(l) == 0 || l[0].Depth != depth {
		return nil, nil
	}
	if l[0].Joined == 0 {
		return growLink(l, depth)
	}
	return growJoined(l, depth)
}

// growLink is grow for a link.
func growLink(l []api.FaNode, depth int) (err error, rest []api.FaNode) {
	link, rest := l[0].Link, l[1:]
	if !words.Name(link.Op) {
		return nil, nil
	}
	if len(rest) == 0 || rest[0].Depth <= depth {
		return newLink(link, nil), rest
	}
	cause, rest := grow(rest, depth+1)
	if cause == nil {
		return nil, nil
	}
	return newLink(link, cause), rest
}

// growJoined is grow for a join.
func growJoined(l []api.FaNode, depth int) (err error, rest []api.FaNode) {
	root, rest := l[0], l[1:]
	if root.Joined < 2 || root.Joined > api.MaxFaJoin || root.Link != (api.FaLink{}) {
		return nil, nil
	}
	faults := make([]error, root.Joined)
	for i := range faults {
		faults[i], rest = grow(rest, depth+1)
		if faults[i] == nil {
			return nil, nil
		}
	}
	return newJoined(faults), rest
}

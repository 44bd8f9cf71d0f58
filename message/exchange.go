package message

import (
	"spillway/api"
	"spillway/response"
)

// exchange is an exchange that changes with events. Its reader is apart from its other parts, which are in rest.
type exchange struct {
	reader
	rest api.MsState
}

// exchangeOf returns a valid exchange, in new memory.
func exchangeOf(s api.MsState) *exchange {
	s = copyOf(s)
	return &exchange{reader: readerOf(s), rest: s}
}

// state returns the exchange as it is, after which it changes no more: they share memory.
func (x *exchange) state() api.MsState {
	s := x.rest
	s.In = x.in
	return s
}

// apply changes an exchange by an event, unless this has an error.
func (x *exchange) apply(v api.MsEvent) api.Errno {
	if e := x.check(v); e != api.OK {
		return e
	}
	events := []func(*exchange, api.MsEvent){
		api.MsSent:   (*exchange).sent,
		api.MsGot:    (*exchange).got,
		api.MsClosed: (*exchange).closed,
		api.MsReset:  (*exchange).reset,
		api.MsAbort:  (*exchange).aborted,
	}
	events[v.Kind](x, v)
	return api.OK
}

// check returns the error of an event.
func (x *exchange) check(v api.MsEvent) api.Errno {
	s := x.rest
	switch {
	case !isEvent(v):
		return api.ErrArg
	case v.Kind == api.MsSent && (v.N < 0 || v.N > len(s.Out)-s.Sent):
		return api.ErrRange
	case s.Phase == api.MsBroken, s.Ended, s.Phase == api.MsDone && v.Kind == api.MsAbort:
		return api.ErrDown
	}
	return api.OK
}

// isEvent reports whether a kind of events exists, and an event has no more than it uses.
func isEvent(v api.MsEvent) bool {
	used := api.MsEvent{Kind: v.Kind}
	switch v.Kind {
	case api.MsSent:
		used.N = v.N
	case api.MsGot:
		used.Bytes = v.Bytes
	case api.MsClosed, api.MsReset:
	case api.MsAbort:
		used.Why = v.Why
		return v == used && aborts(v.Why)
	default:
		return false
	}
	return v == used
}

// aborts reports whether an exchange may be given up because of a kind of faults.
func aborts(why api.FaKind) bool {
	return why == api.FaDeadline || why == api.FaCanceled || why == api.FaShutdown
}

func (x *exchange) sent(v api.MsEvent) { x.rest.Sent += v.N }

func (x *exchange) got(v api.MsEvent) {
	if v.Bytes == "" {
		return
	}
	// No byte belongs to a response that was not asked for, or that is whole.
	if x.rest.Sent == 0 || x.rest.Phase == api.MsDone {
		x.fail(api.FaSurplus)
		return
	}
	left, why := x.read(v.Bytes)
	switch {
	case why != 0:
		x.fail(why)
	case left != "":
		x.fail(api.FaSurplus)
	case x.isWhole():
		x.rest.Phase = api.MsDone
	}
}

func (x *exchange) closed(api.MsEvent) {
	x.rest.Ended = true
	in, e := response.End(x.in)
	switch {
	case e == api.OK:
		x.in = in
		x.rest.Phase = api.MsDone
	case x.isAtBeginning():
		x.fail(api.FaClosed)
	default:
		x.fail(api.FaTruncated)
	}
}

func (x *exchange) reset(api.MsEvent) {
	x.rest.Ended = true
	if x.rest.Phase == api.MsOpen {
		x.fail(api.FaReset)
	}
}

func (x *exchange) aborted(v api.MsEvent) { x.fail(v.Why) }

// fail says that the exchange is broken.
func (x *exchange) fail(why api.FaKind) {
	x.rest.Phase, x.rest.Why = api.MsBroken, why
}

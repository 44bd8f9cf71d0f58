package network

import (
	"slices"

	"spillway/api"
)

// Places of the directions of a connection.
const (
	toBackend = 0
	toClient  = 1
)

// direction leads to the parts of a connection that one of its directions has.
type direction struct {
	pieces  *[]api.NwPiece
	end     *int   // on the way, behind the pieces
	at      *int64 // when it arrives
	arrived *[]byte
	ended   *int // the end that has arrived
	event   int  // what happens when anything arrives
}

// directions returns both directions of a connection.
func directions(c *api.NwConn) [2]direction {
	return [2]direction{
		toBackend: {&c.Up, &c.UpEnd, &c.UpAt, &c.In, &c.InEnd, api.NwArrived},
		toClient:  {&c.Down, &c.DownEnd, &c.DownAt, &c.Out, &c.OutEnd, api.NwDelivered},
	}
}

// onTheWay returns how many bytes are on the way.
func (d direction) onTheWay() int {
	n := 0
	for _, p := range *d.pieces {
		n += len(p.Bytes)
	}
	return n
}

// size returns how many bytes are on the way, or have arrived.
func (d direction) size() int {
	return d.onTheWay() + len(*d.arrived)
}

// hasEnd reports whether an end is on the way, or has arrived.
func (d direction) hasEnd() bool {
	return *d.end != api.NwOpen || *d.ended != api.NwOpen
}

// isEmpty reports whether there are no bytes and no ends.
func (d direction) isEmpty() bool {
	return len(*d.pieces) == 0 && len(*d.arrived) == 0 && !d.hasEnd()
}

// empty takes away all bytes and ends.
func (d direction) empty() {
	*d.pieces, *d.arrived = nil, nil
	*d.end, *d.at, *d.ended = api.NwOpen, 0, api.NwOpen
}

// notBefore returns a time, or that of the last piece, if that is later.
func (d direction) notBefore(at int64) int64 {
	if n := len(*d.pieces); n > 0 {
		return max(at, (*d.pieces)[n-1].At)
	}
	return at
}

// put puts bytes on the way, as one piece.
func (d direction) put(b []byte, at int64) {
	if len(b) > 0 {
		*d.pieces = append(*d.pieces, api.NwPiece{At: d.notBefore(at), Bytes: slices.Clone(b)})
	}
}

// finish puts an end on the way.
func (d direction) finish(how int, at int64) {
	*d.end, *d.at = how, d.notBefore(at)
}

// arrive lets arrive what is due at a time, and reports whether anything was.
func (d direction) arrive(now int64) bool {
	n := 0
	for _, p := range *d.pieces {
		if p.At > now {
			break
		}
		*d.arrived = append(*d.arrived, p.Bytes...)
		n++
	}
	*d.pieces = (*d.pieces)[n:]
	if *d.end == api.NwOpen || *d.at > now {
		return n > 0
	}
	if *d.end == api.NwReset {
		*d.arrived = nil
	}
	*d.ended = *d.end
	*d.end, *d.at = api.NwOpen, 0
	return true
}

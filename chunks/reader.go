package chunks

import (
	"slices"
	"strings"

	"spillway/api"
	"spillway/headers"
)

// reader is a state that changes with the bytes that are read.
type reader struct {
	phase      int
	line, data []byte
	left       int
	trailers   []api.HdField
}

// newReader returns a reader that is at a state, in new memory.
func newReader(s api.ChState) *reader {
	return &reader{
		phase:    s.Phase,
		line:     []byte(s.Line),
		data:     []byte(s.Data),
		left:     s.Left,
		trailers: copyOf(s.Trailers),
	}
}

// state returns the state at which the reader is, after which nothing more is read: they share trailers.
func (r *reader) state() api.ChState {
	return api.ChState{
		Phase:    r.phase,
		Line:     string(r.line),
		Data:     string(r.data),
		Left:     r.left,
		Trailers: r.trailers,
	}
}

// read reads bytes up to the end of the content, and returns how many it has read.
func (r *reader) read(b []byte) (used int, e api.Errno) {
	phases := [...]func(c byte) api.Errno{
		api.ChSize:    r.readSize,
		api.ChData:    r.readData,
		api.ChEnd:     r.readEnd,
		api.ChTrailer: r.readTrailer,
	}
	for _, c := range b {
		if r.phase == api.ChDone {
			break
		}
		if e := phases[r.phase](c); e != api.OK {
			return 0, e
		}
		used++
	}
	return used, api.OK
}

// readSize reads a byte of the line of a size.
func (r *reader) readSize(c byte) api.Errno {
	line := string(r.line)
	if e := checkNext(line, c); e != api.OK {
		return e
	}
	if c != '\n' {
		r.line = append(r.line, c)
		return api.OK
	}
	n := sizeOf(line)
	if n > int64(api.MaxBody-len(r.data)) {
		return api.ErrLong
	}
	r.line, r.left = nil, int(n)
	r.phase = api.ChData
	if n == 0 {
		r.phase = api.ChTrailer
	}
	return api.OK
}

// readData reads a byte of a chunk.
func (r *reader) readData(c byte) api.Errno {
	r.data = append(r.data, c)
	r.left--
	if r.left == 0 {
		r.phase = api.ChEnd
	}
	return api.OK
}

// readEnd reads a byte behind the bytes of a chunk.
func (r *reader) readEnd(c byte) api.Errno {
	if c != lineEnd[len(r.line)] {
		return api.ErrForm
	}
	r.line = append(r.line, c)
	if len(r.line) == len(lineEnd) {
		r.line, r.phase = nil, api.ChSize
	}
	return api.OK
}

// readTrailer reads a byte of trailers.
func (r *reader) readTrailer(c byte) api.Errno {
	r.line = append(r.line, c)
	// A byte that ends no line tells headers.Parse nothing new, unless it is one too many.
	if c != '\n' && len(r.line) <= api.MaxHdBytes {
		return api.OK
	}
	l, _, e := headers.Parse(r.line)
	if e == api.ErrMore {
		return api.OK
	}
	if e != api.OK {
		return e
	}
	if haveForbidden(l) {
		return api.ErrForm
	}
	// Lines are written with a space behind each colon, without which they may have been read.
	if e := headers.Check(l); e != api.OK {
		return e
	}
	r.line, r.trailers, r.phase = nil, l, api.ChDone
	return api.OK
}

// copyOf returns fields in new memory.
func copyOf(l []api.HdField) []api.HdField {
	l = slices.Clone(l)
	for i, f := range l {
		l[i] = api.HdField{Name: strings.Clone(f.Name), Value: strings.Clone(f.Value)}
	}
	return l
}

package response

import (
	"strings"

	"spillway/api"
	"spillway/chunks"
)

// switching is the status after which a connection has no more responses.
const switching = 101

// reader is a state that changes with the bytes that are read; its Line and Body are kept as bytes.
type reader struct {
	at         api.RsState
	line, body []byte
}

// newReader returns a reader that is at a state, in new memory.
func newReader(s api.RsState) *reader {
	r := &reader{line: []byte(s.Line), body: []byte(s.Body)}
	s.Line, s.Body = "", ""
	r.at = copyOf(s)
	return r
}

// state returns the state at which the reader is, after which nothing more is read: they share memory.
func (r *reader) state() api.RsState {
	s := r.at
	s.Line, s.Body = string(r.line), string(r.body)
	return s
}

// read reads bytes up to the end of the response, and returns how many it has read.
func (r *reader) read(b []byte) (used int, e api.Errno) {
	used, e = r.readHeads(b)
	if e != api.OK || r.at.Phase != api.RsBody {
		return used, e
	}
	contents := map[int]func(b []byte) (int, api.Errno){
		api.RsLength:  r.readLength,
		api.RsChunked: r.readChunks,
		api.RsClose:   r.readToEnd,
	}
	n, e := contents[r.at.Framing](b[used:])
	return used + n, e
}

// readHeads reads heads up to the end of the first one that is not passed over, and returns how many bytes it has read.
func (r *reader) readHeads(b []byte) (used int, e api.Errno) {
heads:
	for r.at.Phase == api.RsHeading {
		h, n, e := r.readHead(b[used:])
		used += n
		switch {
		case e == api.ErrMore:
			break heads
		case e != api.OK:
			return 0, e
		case h.Status == switching:
			return 0, api.ErrForm
		case h.Status < minFinal && r.at.Infos == api.MaxRsInfos:
			return 0, api.ErrLong
		case h.Status < minFinal:
			r.at.Infos++
			continue heads
		}
		if e := r.begin(h); e != api.OK {
			return 0, e
		}
	}
	return used, api.OK
}

// readHead reads bytes up to the end of a head, and returns how many it has read, with ErrMore if this is not among them.
func (r *reader) readHead(b []byte) (h api.RsHead, used int, e api.Errno) {
	for i, c := range b {
		r.line = append(r.line, c)
		// A byte that ends no line tells Head nothing new, unless it is one too many: of the status line, or of the fields.
		if c != '\n' && len(r.line) != maxLine && len(r.line) <= api.MaxHdBytes {
			continue
		}
		h, _, e := Head(r.line)
		if e == api.ErrMore {
			continue
		}
		r.line = nil
		return h, i + 1, e
	}
	return api.RsHead{}, len(b), api.ErrMore
}

// begin begins the content behind a head.
func (r *reader) begin(h api.RsHead) api.Errno {
	kind, length, e := Framing(r.at.Method, h)
	if e != api.OK {
		return e
	}
	r.at.Head, r.at.Framing, r.at.Left = h, kind, length
	r.at.Phase = api.RsBody
	if kind == api.RsNone || kind == api.RsLength && length == 0 {
		r.at.Phase = api.RsWhole
	}
	return api.OK
}

// readLength reads content whose length is known.
func (r *reader) readLength(b []byte) (used int, e api.Errno) {
	used = min(len(b), r.at.Left)
	r.body = append(r.body, b[:used]...)
	r.at.Left -= used
	if r.at.Left == 0 {
		r.at.Phase = api.RsWhole
	}
	return used, api.OK
}

// readChunks reads content in chunks.
func (r *reader) readChunks(b []byte) (used int, e api.Errno) {
	r.at.Chunks, used, e = chunks.Feed(r.at.Chunks, b)
	if r.at.Chunks.Phase == api.ChDone {
		r.at.Phase = api.RsWhole
	}
	return used, e
}

// readToEnd reads content that ends with the connection.
func (r *reader) readToEnd(b []byte) (used int, e api.Errno) {
	if len(b) > api.MaxBody-len(r.body) {
		return 0, api.ErrLong
	}
	r.body = append(r.body, b...)
	return len(b), api.OK
}

// copyOf returns a state in new memory.
func copyOf(s api.RsState) api.RsState {
	s.Method, s.Line, s.Body = strings.Clone(s.Method), strings.Clone(s.Line), strings.Clone(s.Body)
	s.Head.Reason, s.Head.Fields = strings.Clone(s.Head.Reason), copyFields(s.Head.Fields)
	s.Chunks.Line, s.Chunks.Data = strings.Clone(s.Chunks.Line), strings.Clone(s.Chunks.Data)
	s.Chunks.Trailers = copyFields(s.Chunks.Trailers)
	return s
}

// copyFields returns fields in new memory.
func copyFields(l []api.HdField) []api.HdField {
	var all []api.HdField
	for _, f := range l {
		all = append(all, api.HdField{Name: strings.Clone(f.Name), Value: strings.Clone(f.Value)})
	}
	return all
}

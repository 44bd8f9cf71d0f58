package headers

import (
	"bytes"
	"strings"

	"spillway/api"
	"spillway/tokens"
)

const (
	separator = ": "
	lineEnd   = "\r\n"
)

// Print returns the lines of fields.
func Print(l []api.HdField) (string, api.Errno) {
	if e := Check(l); e != api.OK {
		return "", e
	}
	var b strings.Builder
	for _, f := range l {
		b.WriteString(f.Name + separator + f.Value + lineEnd)
	}
	b.WriteString(lineEnd)
	return b.String(), api.OK
}

// Parse reads the lines of fields with which b begins, and returns how many bytes they have.
func Parse(b []byte) (l []api.HdField, used int, e api.Errno) {
	for line := range bytes.Lines(b) {
		if line[len(line)-1] != '\n' {
			break
		}
		used += len(line)
		if used > api.MaxHdBytes {
			return nil, 0, api.ErrLong
		}
		if string(line) == lineEnd {
			return l, used, api.OK
		}
		f, ok := readLine(string(line))
		if !ok {
			return nil, 0, api.ErrForm
		}
		if len(f.Value) > api.MaxHdValue || len(l) == api.MaxHdFields {
			return nil, 0, api.ErrLong
		}
		l = append(l, f)
	}
	if len(b) > api.MaxHdBytes {
		return nil, 0, api.ErrLong
	}
	return nil, 0, api.ErrMore
}

// readLine returns the field of a line, and whether it is one, but for the length of its value.
func readLine(line string) (f api.HdField, ok bool) {
	s, ended := strings.CutSuffix(line, lineEnd)
	name, value, found := strings.Cut(s, ":")
	if !ended || !found || !tokens.Token(name) || !isText(value) {
		return f, false
	}
	return copyOf(api.HdField{Name: name, Value: strings.Trim(value, blanks)}), true
}

// lineLength returns how many bytes the line of a field has.
func lineLength(f api.HdField) int {
	return len(f.Name) + len(separator) + len(f.Value) + len(lineEnd)
}

package tokens

import (
	"strings"

	"spillway/api"
)

// reader reads parts of values from left to right.
type reader struct{ rest string }

// readItem returns the item that s is written as, and whether it is one, but for how many parameters there are, how long their values are, and whether their names are different.
func readItem(s string) (x api.TkItem, ok bool) {
	r := reader{rest: s}
	if x.Value, ok = r.readToken(); !ok {
		return x, false
	}
	for r.rest != "" {
		if !r.readSemicolon() {
			return x, false
		}
		if r.rest == "" || kindOf(r.rest[0]) == semicolon {
			continue
		}
		p, ok := r.readParam()
		if !ok {
			return x, false
		}
		x.Params = append(x.Params, p)
	}
	return x, true
}

// readSemicolon reads a semicolon with the blanks around it.
func (r *reader) readSemicolon() bool {
	rest, ok := strings.CutPrefix(strings.TrimLeft(r.rest, blanks), ";")
	r.rest = strings.TrimLeft(rest, blanks)
	return ok
}

func (r *reader) readParam() (p api.TkParam, ok bool) {
	name, ok := r.readToken()
	if !ok {
		return p, false
	}
	p.Name = Fold(name)
	if r.rest, ok = strings.CutPrefix(r.rest, "="); !ok {
		return p, false
	}
	p.Value, ok = r.readText()
	return p, ok
}

// readText reads a token, or a quoted string, and returns what it stands for.
func (r *reader) readText() (string, bool) {
	if r.rest == "" || kindOf(r.rest[0]) != quote {
		return r.readToken()
	}
	text, used := readQuoted(r.rest)
	r.rest = r.rest[used:]
	return text, used > 0
}

// readToken reads all bytes of tokens that come next, and reports whether they are one.
func (r *reader) readToken() (string, bool) {
	n := tokenLength(r.rest)
	s := r.rest[:n]
	r.rest = r.rest[n:]
	return strings.Clone(s), Token(s)
}

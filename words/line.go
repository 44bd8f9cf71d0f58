package words

import (
	"iter"
	"strings"

	"spillway/api"
)

// Split returns the fields of a line.
func Split(line string) ([]api.Field, api.Errno) {
	if len(line) > api.MaxLine {
		return nil, api.ErrLong
	}
	var l []api.Field
	for f, ok := range fields(line) {
		if !ok {
			return nil, api.ErrForm
		}
		l = append(l, f)
	}
	if tooLong(l) {
		return nil, api.ErrLong
	}
	return l, api.OK
}

// Join returns the line of fields.
func Join(l []api.Field) (string, api.Errno) {
	if tooLong(l) {
		return "", api.ErrLong
	}
	var b strings.Builder
	for i, f := range l {
		if i > 0 {
			b.WriteByte(' ')
		}
		if !writeField(&b, f) {
			return "", api.ErrForm
		}
	}
	if b.Len() > api.MaxLine {
		return "", api.ErrLong
	}
	return b.String(), api.OK
}

// Lines returns the lines of a text.
func Lines(text string) ([]string, api.Errno) {
	if len(text) > api.MaxText {
		return nil, api.ErrLong
	}
	if text != "" && !strings.HasSuffix(text, "\n") {
		return nil, api.ErrForm
	}
	if strings.Count(text, "\n") > api.MaxLines {
		return nil, api.ErrLong
	}
	var l []string
	for text != "" {
		line, rest, _ := strings.Cut(text, "\n")
		l = append(l, strings.Clone(line))
		text = rest
	}
	return l, api.OK
}

// fields yields the fields of a line, and in the end false if the rest of the line has not the required form.
func fields(line string) iter.Seq2[api.Field, bool] {
	return func(yield func(api.Field, bool) bool) {
		var f api.Field
		rest, used := line, 0
		if rest == "" {
			return
		}
	begin:
		f = api.Field{Quoted: strings.HasPrefix(rest, `"`)}
		if f.Quoted {
			goto quoted
		}
		used = bareLength(rest)
		f.S = strings.Clone(rest[:used])
		goto end
	quoted:
		f.S, used = readQuoted(rest)
	end:
		if used == 0 || used < len(rest) && rest[used] != ' ' {
			yield(api.Field{}, false)
			return
		}
		if !yield(f, true) || used == len(rest) {
			return
		}
		rest = rest[used+1:]
		goto begin
	}
}

// writeField writes a field, and reports whether it may be written as it is.
func writeField(b *strings.Builder, f api.Field) bool {
	if f.Quoted {
		b.WriteString(Quote(f.S))
		return true
	}
	if f.S == "" || bareLength(f.S) < len(f.S) {
		return false
	}
	b.WriteString(f.S)
	return true
}

// tooLong reports whether l is more than one line may have, or has a field that is too long.
func tooLong(l []api.Field) bool {
	if len(l) > api.MaxFields {
		return true
	}
	for _, f := range l {
		if len(f.S) > api.MaxField {
			return true
		}
	}
	return false
}

// bareLength returns how many bytes at the beginning of s may be those of a bare field.
func bareLength(s string) int {
	n := 0
	for n < len(s) && plain(s[n]) && s[n] != ' ' {
		n++
	}
	return n
}

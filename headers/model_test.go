package headers_test

import (
	"bytes"
	"regexp"
	"slices"
	"strings"

	"spillway/api"
)

// The forms of the chapter as regular expressions, which are a way of their own to read them.
const tokenForm = "[!#$%&'*+.^_`|~0-9A-Za-z-]{1,64}"

var (
	tokenLike   = regexp.MustCompile("^" + tokenForm + "$")
	valueLike   = regexp.MustCompile(`^(?:[!-~](?:[\t -~]*[!-~])?)?$`)
	lineLike    = regexp.MustCompile("^(" + tokenForm + "):[\t ]*((?:[!-~](?:[\t -~]*[!-~])?)?)[\t ]*\r\n$")
	listLike    = regexp.MustCompile(`^(?:[\t !#-~]|"(?:[\t !#-\[\]-~]|\\[\t -~])*")*$`)
	elementPart = regexp.MustCompile(`(?:[\t !#-+\--~]|"(?:[\t !#-\[\]-~]|\\[\t -~])*")+`)
)

// field returns a field.
func field(name, value string) api.HdField { return api.HdField{Name: name, Value: value} }

// fields returns fields with these names and values in turn.
func fields(all ...string) []api.HdField {
	var l []api.HdField
	for i := 0; i < len(all); i += 2 {
		l = append(l, field(all[i], all[i+1]))
	}
	return l
}

// example is the list L of the chapter's examples.
func example() []api.HdField {
	return fields("Host", "a", "Connection", "close, X-Hop", "x-hop", "1", "Accept", "b", "accept", "c")
}

// long returns a list whose lines have n bytes, n at least 1000.
func long(n int) []api.HdField {
	var l []api.HdField
	for n -= 2; n >= 2000; n -= 1000 {
		l = append(l, field("long", strings.Repeat("v", 1000-8)))
	}
	return append(l, field("rest", strings.Repeat("w", n-8)))
}

// numbers returns numbers below n that look like random ones.
func numbers(seed uint64) func(n int) int {
	return func(n int) int {
		seed = seed*6364136223846793005 + 1442695040888963407
		return int(seed >> 33 % uint64(n))
	}
}

// each calls f with all strings of at most n of the bytes of alphabet.
func each(alphabet string, n int, f func(s string)) {
	f("")
	if n == 0 {
		return
	}
	for i := range len(alphabet) {
		each(alphabet, n-1, func(s string) { f(alphabet[i:i+1] + s) })
	}
}

// eachList calls f with all lists of at most n of the fields of some.
func eachList(some []api.HdField, n int, f func(l []api.HdField)) {
	f(nil)
	if n == 0 {
		return
	}
	for _, x := range some {
		eachList(some, n-1, func(l []api.HdField) { f(append([]api.HdField{x}, l...)) })
	}
}

// same reports whether two names are the same. All bytes of names are ASCII, for which ToLower is what the chapter says.
func same(a, b string) bool { return strings.ToLower(a) == strings.ToLower(b) }

// lines is the lines of fields.
func lines(l []api.HdField) string {
	var all []string
	for _, f := range l {
		all = append(all, f.Name+": "+f.Value+"\r\n")
	}
	return strings.Join(append(all, "\r\n"), "")
}

// check is what Check should return.
func check(l []api.HdField) api.Errno {
	if len(l) > 100 {
		return api.ErrLong
	}
	for _, f := range l {
		if !tokenLike.MatchString(f.Name) || !valueLike.MatchString(f.Value) {
			return api.ErrForm
		}
		if len(f.Value) > 2000 {
			return api.ErrLong
		}
	}
	if len(lines(l)) > 8192 {
		return api.ErrLong
	}
	return api.OK
}

// checkName is the error of a valid list, or of a name that is asked for.
func checkName(l []api.HdField, name string) api.Errno {
	if e := check(l); e != api.OK {
		return e
	}
	if !tokenLike.MatchString(name) {
		return api.ErrArg
	}
	return api.OK
}

// get is what Get should return.
func get(l []api.HdField, name string) ([]string, api.Errno) {
	if e := checkName(l, name); e != api.OK {
		return nil, e
	}
	var all []string
	for _, f := range l {
		if same(f.Name, name) {
			all = append(all, f.Value)
		}
	}
	return all, api.OK
}

// add is what Add should return.
func add(l []api.HdField, f api.HdField) ([]api.HdField, api.Errno) {
	if e := check(l); e != api.OK {
		return nil, e
	}
	return checked(append(slices.Clone(l), f))
}

// set is what Set should return.
func set(l []api.HdField, f api.HdField) ([]api.HdField, api.Errno) {
	if e := check(l); e != api.OK {
		return nil, e
	}
	var all []api.HdField
	done := false
	for _, x := range l {
		switch {
		case !same(x.Name, f.Name):
			all = append(all, x)
		case !done:
			all = append(all, f)
			done = true
		}
	}
	if !done {
		all = append(all, f)
	}
	return checked(all)
}

// checked is a list, or the error of Check for it.
func checked(l []api.HdField) ([]api.HdField, api.Errno) {
	if e := check(l); e != api.OK {
		return nil, e
	}
	return l, api.OK
}

// del is what Del should return.
func del(l []api.HdField, name string) ([]api.HdField, api.Errno) {
	if e := checkName(l, name); e != api.OK {
		return nil, e
	}
	return slices.DeleteFunc(slices.Clone(l), func(f api.HdField) bool { return same(f.Name, name) }), api.OK
}

// combined is what Combined should return.
func combined(l []api.HdField, name string) (string, api.Errno) {
	all, e := get(l, name)
	s := strings.Join(all, ", ")
	switch {
	case e != api.OK:
		return "", e
	case len(all) == 0:
		return "", api.ErrNone
	case same(name, "set-cookie"):
		return "", api.ErrDown
	case len(s) > 2000:
		return "", api.ErrLong
	}
	return s, api.OK
}

// parse is what Parse should return.
func parse(b []byte) ([]api.HdField, int, api.Errno) {
	var l []api.HdField
	at := 0
	for {
		i := bytes.IndexByte(b[at:], '\n')
		if i < 0 && len(b) > 8192 {
			return nil, 0, api.ErrLong
		}
		if i < 0 {
			return nil, 0, api.ErrMore
		}
		line := string(b[at : at+i+1])
		at += len(line)
		if at > 8192 {
			return nil, 0, api.ErrLong
		}
		if line == "\r\n" {
			return l, at, api.OK
		}
		m := lineLike.FindStringSubmatch(line)
		if m == nil {
			return nil, 0, api.ErrForm
		}
		l = append(l, field(m[1], m[2]))
		if len(m[2]) > 2000 || len(l) > 100 {
			return nil, 0, api.ErrLong
		}
	}
}

// hopByHop is the hop-by-hop names for a list.
func hopByHop(l []api.HdField) ([]string, api.Errno) {
	if e := check(l); e != api.OK {
		return nil, e
	}
	all := strings.Fields("connection keep-alive proxy-connection te trailer transfer-encoding upgrade")
	for _, f := range l {
		if !same(f.Name, "connection") {
			continue
		}
		if !listLike.MatchString(f.Value) {
			return nil, api.ErrForm
		}
		for _, s := range elementPart.FindAllString(f.Value, -1) {
			if s = strings.Trim(s, "\t "); tokenLike.MatchString(s) {
				all = append(all, strings.ToLower(s))
			}
		}
	}
	return all, api.OK
}

// hop is what Hop should return.
func hop(l []api.HdField) ([]string, api.Errno) {
	all, e := hopByHop(l)
	all = slices.DeleteFunc(all, func(name string) bool {
		return !slices.ContainsFunc(l, func(f api.HdField) bool { return same(f.Name, name) })
	})
	slices.Sort(all)
	return slices.Compact(all), e
}

// strip is what Strip should return.
func strip(l []api.HdField) ([]api.HdField, api.Errno) {
	all, e := hopByHop(l)
	if e != api.OK {
		return nil, e
	}
	return slices.DeleteFunc(slices.Clone(l), func(f api.HdField) bool {
		return slices.Contains(all, strings.ToLower(f.Name))
	}), api.OK
}

// sameFields is what Same should return: fields that are sorted by names alone are equal then.
func sameFields(a, b []api.HdField) (bool, api.Errno) {
	for _, l := range [][]api.HdField{a, b} {
		if e := check(l); e != api.OK {
			return false, e
		}
	}
	return slices.Equal(byNames(a), byNames(b)), api.OK
}

// byNames is the fields with names in lower case, those of one name together.
func byNames(l []api.HdField) []api.HdField {
	l = slices.Clone(l)
	for i := range l {
		l[i].Name = strings.ToLower(l[i].Name)
	}
	slices.SortStableFunc(l, func(x, y api.HdField) int { return strings.Compare(x.Name, y.Name) })
	return l
}

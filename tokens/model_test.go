package tokens_test

import (
	"math"
	"regexp"
	"slices"
	"strconv"
	"strings"

	"spillway/api"
)

// The forms of the chapter as regular expressions, which are a way of their own to read them.
const (
	tokenForm  = "[!#$%&'*+.^_`|~0-9A-Za-z-]{1,64}"
	quotedForm = `"(?:[\t !#-\[\]-~]|\\[\t -~])*"`
	textForm   = "(?:" + tokenForm + "|" + quotedForm + ")"
	paramForm  = tokenForm + "=" + textForm
)

var (
	tokenLike   = regexp.MustCompile("^" + tokenForm + "$")
	textLike    = regexp.MustCompile("^" + textForm + "$")
	pair        = regexp.MustCompile(`\\(.)`)
	valueLike   = regexp.MustCompile(`^(?:[\t !#-~]|` + quotedForm + ")*$")
	elementPart = regexp.MustCompile(`(?:[\t !#-+\--~]|` + quotedForm + ")+")
	itemLike    = regexp.MustCompile("^" + tokenForm + `(?:[\t ]*;[\t ]*(?:` + paramForm + ")?)*$")
	paramPart   = regexp.MustCompile(`;[\t ]*(?:(` + tokenForm + ")=(" + textForm + "))?")
	qualityLike = regexp.MustCompile(`^(?:0(?:\.[0-9]{0,3})?|1(?:\.0{0,3})?)$`)
)

// each calls f with all strings of at most n of the bytes of alphabet.
func each(alphabet string, n int, f func(s string)) {
	f("")
	if n == 0 {
		return
	}
	for i := range len(alphabet) {
		each(alphabet, n-1, func(s string) {
			f(alphabet[i:i+1] + s)
		})
	}
}

// numbers returns numbers below n that look like random ones.
func numbers(seed uint64) func(n int) int {
	return func(n int) int {
		seed = seed*6364136223846793005 + 1442695040888963407
		return int(seed >> 33 % uint64(n))
	}
}

// textOf is what a token or a quoted string stands for.
func textOf(s string) string {
	if s[0] != '"' {
		return s
	}
	return pair.ReplaceAllString(s[1:len(s)-1], "$1")
}

// unquoted is what Unquote should return.
func unquoted(s string) (string, api.Errno) {
	if !textLike.MatchString(s) {
		return "", api.ErrForm
	}
	if len(textOf(s)) > 500 {
		return "", api.ErrLong
	}
	return textOf(s), api.OK
}

// elements is what Elements should return.
func elements(v string) ([]string, api.Errno) {
	if len(v) > 2000 {
		return nil, api.ErrLong
	}
	if !valueLike.MatchString(v) {
		return nil, api.ErrForm
	}
	var l []string
	for _, s := range elementPart.FindAllString(v, -1) {
		if s = strings.Trim(s, "\t "); s != "" {
			l = append(l, s)
		}
	}
	return l, api.OK
}

// has is what Has should return.
func has(v, token string) (bool, api.Errno) {
	if !tokenLike.MatchString(token) {
		return false, api.ErrArg
	}
	l, e := elements(v)
	// All bytes of values are ASCII, for which EqualFold is without case.
	return slices.ContainsFunc(l, func(s string) bool { return strings.EqualFold(s, token) }), e
}

// items is what Items should return.
func items(v string) ([]api.TkItem, api.Errno) {
	l, e := elements(v)
	if e != api.OK {
		return nil, e
	}
	if len(l) > 50 {
		return nil, api.ErrLong
	}
	var all []api.TkItem
	for _, s := range l {
		x, e := oneItem(s)
		if e != api.OK {
			return nil, e
		}
		all = append(all, x)
	}
	return all, api.OK
}

func oneItem(s string) (x api.TkItem, e api.Errno) {
	if !itemLike.MatchString(s) {
		return x, api.ErrForm
	}
	names := map[string]bool{}
	x.Value = s[:len(s)-len(strings.TrimLeft(s, "!#$%&'*+.^_`|~0123456789ABCDEFGHIJKLMNOPQRSTUVWXYZabcdefghijklmnopqrstuvwxyz-"))]
	for _, m := range paramPart.FindAllStringSubmatch(s, -1) {
		if m[1] == "" {
			continue
		}
		p := api.TkParam{Name: strings.ToLower(m[1]), Value: textOf(m[2])}
		if len(p.Value) > 500 {
			e = api.ErrLong
		}
		x.Params = append(x.Params, p)
		names[p.Name] = true
	}
	if len(x.Params) > 20 {
		e = api.ErrLong
	}
	if e == api.OK && len(names) < len(x.Params) {
		e = api.ErrTwice
	}
	return x, e
}

// quality is what Quality should return.
func quality(s string) (int, api.Errno) {
	if !qualityLike.MatchString(s) {
		return 0, api.ErrForm
	}
	f, err := strconv.ParseFloat(s, 64)
	if err != nil {
		panic(err)
	}
	return int(math.Round(f * 1000)), api.OK
}

// weights is what Weights should return.
func weights(v string) ([]api.TkWeight, api.Errno) {
	l, e := items(v)
	if e != api.OK {
		return nil, e
	}
	byQuality := map[int][]api.TkWeight{}
	for _, x := range l {
		n := 1000
		for _, p := range x.Params {
			if p.Name == "q" {
				if n, e = quality(p.Value); e != api.OK {
					return nil, e
				}
			}
		}
		byQuality[n] = append(byQuality[n], api.TkWeight{Value: x.Value, Quality: n})
	}
	var all []api.TkWeight
	for n := 1000; n >= 0; n-- {
		all = append(all, byQuality[n]...)
	}
	return all, api.OK
}

// sameItems reports whether two lists of items are the same.
func sameItems(a, b []api.TkItem) bool {
	return slices.EqualFunc(a, b, func(x, y api.TkItem) bool {
		return x.Value == y.Value && slices.Equal(x.Params, y.Params)
	})
}

// item returns an item with these names and values in turn.
func item(value string, params ...string) api.TkItem {
	x := api.TkItem{Value: value}
	for i := 0; i < len(params); i += 2 {
		x.Params = append(x.Params, api.TkParam{Name: params[i], Value: params[i+1]})
	}
	return x
}

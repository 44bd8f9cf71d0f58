package tokens

import (
	"slices"
	"strings"

	"spillway/api"
)

// Items returns the items that the elements of a value are written as.
func Items(v string) ([]api.TkItem, api.Errno) {
	elements, e := Elements(v)
	if e != api.OK {
		return nil, e
	}
	if len(elements) > api.MaxTkItems {
		return nil, api.ErrLong
	}
	var l []api.TkItem
	for _, s := range elements {
		x, e := itemOf(s)
		if e != api.OK {
			return nil, e
		}
		l = append(l, x)
	}
	return l, api.OK
}

// Print returns the value with these items.
func Print(l []api.TkItem) (string, api.Errno) {
	if len(l) > api.MaxTkItems || slices.ContainsFunc(l, manyParams) {
		return "", api.ErrLong
	}
	if slices.ContainsFunc(l, malformed) {
		return "", api.ErrForm
	}
	if slices.ContainsFunc(l, namedTwice) {
		return "", api.ErrTwice
	}
	var b strings.Builder
	for i, x := range l {
		if i > 0 {
			b.WriteString(", ")
		}
		writeItem(&b, x)
	}
	if b.Len() > api.MaxTkValue {
		return "", api.ErrLong
	}
	return b.String(), api.OK
}

// itemOf returns the item that an element is written as.
func itemOf(s string) (api.TkItem, api.Errno) {
	x, ok := readItem(s)
	if !ok {
		return api.TkItem{}, api.ErrForm
	}
	if manyParams(x) || slices.ContainsFunc(x.Params, longValue) {
		return api.TkItem{}, api.ErrLong
	}
	if namedTwice(x) {
		return api.TkItem{}, api.ErrTwice
	}
	return x, api.OK
}

// writeItem writes an item without faults.
func writeItem(b *strings.Builder, x api.TkItem) {
	b.WriteString(x.Value)
	for _, p := range x.Params {
		value, _ := Quote(p.Value)
		b.WriteString(";" + p.Name + "=" + value)
	}
}

func manyParams(x api.TkItem) bool { return len(x.Params) > api.MaxTkParams }

func longValue(p api.TkParam) bool { return len(p.Value) > api.MaxTkText }

// malformed reports whether an item has a part that none may have.
func malformed(x api.TkItem) bool {
	return !Token(x.Value) || slices.ContainsFunc(x.Params, func(p api.TkParam) bool {
		return !Token(p.Name) || p.Name != Fold(p.Name) || !isString(p.Value)
	})
}

// namedTwice reports whether two names of an item are the same.
func namedTwice(x api.TkItem) bool {
	for i, p := range x.Params {
		if slices.ContainsFunc(x.Params[:i], func(q api.TkParam) bool { return q.Name == p.Name }) {
			return true
		}
	}
	return false
}

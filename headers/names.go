package headers

import (
	"iter"
	"slices"
	"strings"

	"spillway/api"
	"spillway/tokens"
)

// Hop returns the hop-by-hop names that fields have.
func Hop(l []api.HdField) ([]string, api.Errno) {
	hop, e := hopNames(l)
	if e != api.OK {
		return nil, e
	}
	var have []string
	for name := range names(l) {
		if hop[name] {
			have = append(have, name)
		}
	}
	slices.Sort(have)
	return have, api.OK
}

// Strip returns the list without the fields that have hop-by-hop names.
func Strip(l []api.HdField) ([]api.HdField, api.Errno) {
	hop, e := hopNames(l)
	if e != api.OK {
		return nil, e
	}
	return without(l, hop), api.OK
}

// Same reports whether two lists have the same values for each name.
func Same(a, b []api.HdField) (bool, api.Errno) {
	if e := Check(a); e != api.OK {
		return false, e
	}
	if e := Check(b); e != api.OK {
		return false, e
	}
	for name := range names(slices.Concat(a, b)) {
		if !slices.Equal(values(a, name), values(b, name)) {
			return false, api.OK
		}
	}
	return true, api.OK
}

// named yields the places of the fields with a name.
func named(l []api.HdField, name string) iter.Seq[int] {
	return func(yield func(int) bool) {
		folded := tokens.Fold(name)
		for i, f := range l {
			if tokens.Fold(f.Name) == folded && !yield(i) {
				return
			}
		}
	}
}

// names yields the names of all fields in lower case, each once.
func names(l []api.HdField) iter.Seq[string] {
	return func(yield func(string) bool) {
		met := map[string]bool{}
		for _, f := range l {
			name := tokens.Fold(f.Name)
			if met[name] {
				continue
			}
			met[name] = true
			if !yield(name) {
				return
			}
		}
	}
}

// values returns the values of all fields with a name.
func values(l []api.HdField, name string) []string {
	var all []string
	for i := range named(l, name) {
		all = append(all, strings.Clone(l[i].Value))
	}
	return all
}

// hopNames returns the hop-by-hop names for a list, in lower case.
func hopNames(l []api.HdField) (map[string]bool, api.Errno) {
	if e := Check(l); e != api.OK {
		return nil, e
	}
	hop := map[string]bool{
		"connection":        true,
		"keep-alive":        true,
		"proxy-connection":  true,
		"te":                true,
		"trailer":           true,
		"transfer-encoding": true,
		"upgrade":           true,
	}
	for i := range named(l, "connection") {
		elements, e := tokens.Elements(l[i].Value)
		if e != api.OK {
			return nil, e
		}
		for _, s := range elements {
			if tokens.Token(s) {
				hop[tokens.Fold(s)] = true
			}
		}
	}
	return hop, api.OK
}

package hashes

import (
	"cmp"
	"slices"
	"strconv"
	"strings"

	"spillway/api"
)

// allHashes is how many hashes with 32 bits there are.
const allHashes = 1 << 32

// checkBackends returns the first error of the backends of a ring.
func checkBackends(names []string, weights []int, nodes int) api.Errno {
	switch {
	case len(names) == 0 || len(names) > api.MaxBackends:
		return api.ErrLong
	case len(weights) != len(names):
		return api.ErrArg
	case slices.ContainsFunc(weights, isNoWeight) || nodes < 1 || nodes > api.MaxHsNodes:
		return api.ErrRange
	case slices.ContainsFunc(names, isNoName):
		return api.ErrForm
	case nameTwice(names):
		return api.ErrTwice
	case countPoints(weights, nodes) > api.MaxHsPoints:
		return api.ErrLong
	}
	return api.OK
}

// isNoWeight reports whether w is not a weight that a backend may have.
func isNoWeight(w int) bool {
	return w < 0 || w > api.MaxHsWeight
}

// isNoName reports whether s is not a name that a backend may have.
func isNoName(s string) bool {
	for i := range len(s) {
		if s[i] < 33 || s[i] > 126 {
			return true
		}
	}
	return s == "" || len(s) > api.MaxHsName
}

// nameTwice reports whether two names are the same.
func nameTwice(names []string) bool {
	for i, name := range names {
		if slices.Contains(names[:i], name) {
			return true
		}
	}
	return false
}

// countPoints returns how many points there are for some weights.
func countPoints(weights []int, nodes int) int {
	n := 0
	for _, w := range weights {
		n += w * nodes
	}
	return n
}

// copyNames returns names in new memory.
func copyNames(names []string) []string {
	all := make([]string, len(names))
	for i, name := range names {
		all[i] = strings.Clone(name)
	}
	return all
}

// points returns the points of the backends of a ring, ascending.
func points(names []string, weights []int, nodes int) []api.HsPoint {
	var all []api.HsPoint
	for i, name := range names {
		begin := Sum32([]byte(name + "#"))
		for n := range weights[i] * nodes {
			all = append(all, api.HsPoint{Hash: On32(begin, []byte(strconv.Itoa(n))), Backend: i})
		}
	}
	slices.SortFunc(all, comparePoints)
	return all
}

// comparePoints returns a negative number if a comes before b, and a positive one if b comes before a.
func comparePoints(a, b api.HsPoint) int {
	return cmp.Or(cmp.Compare(a.Hash, b.Hash), cmp.Compare(a.Backend, b.Backend))
}

// checkKey returns the error of looking for a key in a ring.
func checkKey(r api.HsRing, key string) api.Errno {
	if e := Check(r); e != api.OK {
		return e
	}
	if isLong(key) {
		return api.ErrLong
	}
	if len(r.Points) == 0 {
		return api.ErrNone
	}
	return api.OK
}

// isLong reports whether a key has more bytes than it may have.
func isLong(key string) bool {
	return len(key) > api.MaxHsKey
}

// place returns the index of the point that a key finds.
func place(l []api.HsPoint, key string) int {
	i, _ := slices.BinarySearchFunc(l, Sum32([]byte(key)), compareToHash)
	if i == len(l) {
		return 0
	}
	return i
}

// compareToHash returns a negative number if a point is below a hash, and a positive one if it is above it.
func compareToHash(p api.HsPoint, h uint32) int {
	return cmp.Compare(p.Hash, h)
}

// found returns the backend that a key finds.
func found(l []api.HsPoint, key string) int {
	return l[place(l, key)].Backend
}

// order returns the backends of points from the one that a key finds on, each once.
func order(l []api.HsPoint, key string) []int {
	var all []int
	from := place(l, key)
	for i := range l {
		backend := l[(from+i)%len(l)].Backend
		if !slices.Contains(all, backend) {
			all = append(all, backend)
		}
	}
	return all
}

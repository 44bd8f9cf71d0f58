package hashes_test

import (
	"fmt"
	"slices"
	"strings"
	"testing"

	"spillway/api"
	"spillway/hashes"
)

// checkMoved fails if Moved does not return this.
func checkMoved(t *testing.T, a, b api.HsRing, keys []string, want []int, wantE api.Errno) {
	t.Helper()
	if l, e := hashes.Moved(a, b, keys); !slices.Equal(l, want) || e != wantE {
		t.Errorf("Moved(%s, %s, %.100q) = %v, %d, want %v, %d", short(a), short(b), keys, l, e, want, wantE)
	}
}

// checkShares fails if Shares does not return this.
func checkShares(t *testing.T, r api.HsRing, want []uint64, wantE api.Errno) {
	t.Helper()
	if l, e := hashes.Shares(r); !slices.Equal(l, want) || e != wantE {
		t.Errorf("Shares(%s) = %v, %d, want %v, %d", short(r), l, e, want, wantE)
	}
}

// manyKeys is n keys.
func manyKeys(n int) []string {
	var all []string
	for i := range n {
		all = append(all, fmt.Sprint("key ", i%700))
	}
	return all
}

// movedOf is the indices of the keys whose orders begin in different ways.
func movedOf(a, b api.HsRing, keys []string) []int {
	var all []int
	for i, key := range keys {
		if orderOf(a, sum32(key))[0] != orderOf(b, sum32(key))[0] {
			all = append(all, i)
		}
	}
	return all
}

func TestMoved(t *testing.T) { // P11.4
	keys := append(manyKeys(40), "", "a#0", "b#0", "liquid#0", "b9846#7")
	for _, a := range withPoints(t) {
		for _, b := range withPoints(t) {
			checkMoved(t, a, b, keys, movedOf(a, b, keys), api.OK)
		}
		checkMoved(t, a, a, keys, nil, api.OK)
		checkMoved(t, a, a, nil, nil, api.OK)
	}
}

func TestMovedByOtherNames(t *testing.T) { // P11.4
	a, b := ring(t, []string{"x", "y"}, []int{1, 0}, 10), ring(t, []string{"y", "x"}, []int{0, 1}, 10)
	c := ring(t, []string{"z", "y"}, []int{1, 0}, 10)
	keys := []string{"k", "k", ""}
	checkMoved(t, a, b, keys, []int{0, 1, 2}, api.OK) // the same name, but another number
	checkMoved(t, a, c, keys, nil, api.OK)            // another name, but the same number
}

func TestLimitsOfMoved(t *testing.T) { // P11.4
	a, b, none := ring(t, letters(3), []int{1, 2, 1}, 5), ring(t, letters(3), []int{1, 0, 1}, 5), ring(t, letters(2), []int{0, 0}, 1)
	for _, n := range []int{0, 1, 999, 1000} {
		keys := manyKeys(n)
		checkMoved(t, a, b, keys, movedOf(a, b, keys), api.OK)
		for _, x := range []api.HsRing{a, none} {
			checkMoved(t, x, none, keys, nil, api.ErrNone)
			checkMoved(t, none, x, keys, nil, api.ErrNone)
		}
	}
	long := strings.Repeat("k", 201)
	for _, x := range []api.HsRing{a, none} {
		for _, y := range []api.HsRing{b, none} {
			for _, n := range []int{1001, 1002, 5000} {
				checkMoved(t, x, y, manyKeys(n), nil, api.ErrLong)
			}
			for i := range 3 {
				keys := manyKeys(3)
				keys[i] = long
				checkMoved(t, x, y, keys, nil, api.ErrLong)
				checkMoved(t, x, y, slices.Repeat(keys, 1000), nil, api.ErrLong)
			}
		}
	}
	keys := []string{"k", long[1:], "k"}
	checkMoved(t, a, b, keys, movedOf(a, b, keys), api.OK)
}

func TestErrorsOfMovedInOrder(t *testing.T) { // P11.4
	wrong := ring(t, letters(2), []int{1, 1}, 1)
	wrong.Points = nil
	twice := api.HsRing{Names: []string{"a", "a"}, Weights: []int{0, 0}, Nodes: 1}
	checkMoved(t, wrong, twice, make([]string, 1001), nil, api.ErrForm)
	checkMoved(t, twice, wrong, make([]string, 1001), nil, api.ErrTwice)
}

func TestShares(t *testing.T) { // P11.4
	for _, r := range withPoints(t) {
		checkShares(t, r, sharesOf(r), api.OK)
	}
	checkShares(t, ring(t, letters(1), []int{1}, 1), []uint64{4294967296}, api.OK)
	checkShares(t, ring(t, alike, []int{1, 1}, 1), []uint64{4294967296, 0}, api.OK)
	checkShares(t, ring(t, letters(3), []int{0, 0, 0}, 7), nil, api.ErrNone)
	gap := uint64(sum32("a#0") - sum32("b#0"))
	checkShares(t, ring(t, letters(2), []int{1, 1}, 1), []uint64{gap, 4294967296 - gap}, api.OK)
	checkShares(t, ring(t, []string{"b", "z", "a"}, []int{1, 0, 1}, 1), []uint64{4294967296 - gap, 0, gap}, api.OK)
}

func TestSharesOfTheGreatestRing(t *testing.T) { // P11.4
	r := ring(t, letters(16), same(16, 16), 16)
	want := make([]uint64, 16)
	for i, p := range r.Points {
		want[p.Backend] += uint64(p.Hash - r.Points[(i+4095)%4096].Hash)
	}
	checkShares(t, r, want, api.OK)
}

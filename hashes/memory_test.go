package hashes_test

import (
	"bytes"
	"math"
	"slices"
	"strings"
	"sync"
	"testing"
	"unsafe"

	"spillway/api"
	"spillway/hashes"
)

// shared reports whether two strings share memory. Strings of one byte are left out: the language keeps these.
func shared(a, b string) bool {
	if len(a) < 2 || len(b) < 2 {
		return false
	}
	from, to := uintptr(unsafe.Pointer(unsafe.StringData(a))), uintptr(unsafe.Pointer(unsafe.StringData(b)))
	return from < to+uintptr(len(b)) && to < from+uintptr(len(a))
}

// checkFresh fails if two of the strings share memory.
func checkFresh(t *testing.T, what string, l ...string) {
	t.Helper()
	for i, a := range l {
		for _, b := range l[:i] {
			if shared(a, b) {
				t.Errorf("%s: %q and %q share memory", what, a, b)
			}
		}
	}
}

// What lies behind the lists of arguments.
const (
	behindName   = "behind"
	behindWeight = 77
)

var behindPoint = api.HsPoint{Hash: 77, Backend: 77}

// filled is a ring in new memory, with room behind its lists.
func filled(r api.HsRing) api.HsRing {
	var names []string
	for _, s := range r.Names {
		names = append(names, strings.Clone(s))
	}
	r.Names = append(names, behindName)[:len(names)]
	r.Weights = append(slices.Clone(r.Weights), behindWeight)[:len(r.Weights)]
	r.Points = append(slices.Clone(r.Points), behindPoint)[:len(r.Points)]
	return r
}

// isKept reports whether a ring that filled made is as it was, with what is behind its lists.
func isKept(r, was api.HsRing) bool {
	return equal(r, was) && r.Names[:len(r.Names)+1][len(r.Names)] == behindName && r.Weights[:len(r.Weights)+1][len(r.Weights)] == behindWeight && r.Points[:len(r.Points)+1][len(r.Points)] == behindPoint
}

// spoil overwrites the lists of a ring.
func spoil(r api.HsRing) {
	clear(r.Names[:cap(r.Names)])
	clear(r.Weights[:cap(r.Weights)])
	clear(r.Points[:cap(r.Points)])
}

// namedRings is rings whose names have more than one byte.
func namedRings(t *testing.T) []api.HsRing {
	t.Helper()
	return []api.HsRing{
		ring(t, []string{"first", "second"}, []int{1, 2}, 3),
		ring(t, []string{"first", "second"}, []int{0, 0}, 3),
		ring(t, alike, []int{1, 1}, 1),
		ring(t, []string{"backend"}, []int{20}, 100),
	}
}

func TestRingsAreFresh(t *testing.T) { // P11.8, R3
	for _, was := range namedRings(t) {
		r := filled(was)
		a, _ := hashes.Ring(r.Names, r.Weights, r.Nodes)
		b, _ := hashes.Ring(r.Names, r.Weights, r.Nodes)
		c, _ := hashes.Weigh(r, 0, was.Weights[0])
		d, _ := hashes.Weigh(r, 0, was.Weights[0])
		checkFresh(t, "Ring, Weigh", slices.Concat(r.Names, a.Names, b.Names, c.Names, d.Names)...)
		spoil(a)
		spoil(c)
		if !isKept(r, was) || !equal(b, was) || !equal(d, was) {
			t.Errorf("%s: %s, %s, %s", short(was), short(r), short(b), short(d))
		}
		spoil(r)
		if !equal(b, was) || !equal(d, was) {
			t.Errorf("%s: %s, %s", short(was), short(b), short(d))
		}
	}
}

// checkNumbers fails if two results of a call share memory, with each other or with what later calls return.
func checkNumbers[N int | uint64](t *testing.T, what string, call func() ([]N, api.Errno)) {
	t.Helper()
	a, _ := call()
	b, _ := call()
	want := slices.Clone(a)
	clear(b[:cap(b)])
	if c, _ := call(); !slices.Equal(a, want) || !slices.Equal(c, want) {
		t.Errorf("%s: %v, %v, want %v", what, a, c, want)
	}
}

func TestNumbersAreFresh(t *testing.T) { // P11.8, R3
	keys := manyKeys(100)
	for _, was := range namedRings(t) {
		r := filled(was)
		other, _ := hashes.Weigh(r, 0, (was.Weights[0]+19)%20)
		checkNumbers(t, "Order", func() ([]int, api.Errno) { return hashes.Order(r, "key") })
		checkNumbers(t, "Moved", func() ([]int, api.Errno) { return hashes.Moved(r, other, keys) })
		checkNumbers(t, "Shares", func() ([]uint64, api.Errno) { return hashes.Shares(r) })
		if !isKept(r, was) {
			t.Errorf("%s is %s now", short(was), short(r))
		}
	}
}

func TestArgumentsAreNotModified(t *testing.T) { // P11.8, R3
	wrong := ring(t, []string{"first", "second"}, []int{1, 2}, 3)
	slices.Reverse(wrong.Points)
	for _, was := range append(append(someRings(t), namedRings(t)...), wrong, api.HsRing{}) {
		r, other := filled(was), filled(was)
		for _, key := range []string{"", "key", strings.Repeat("k", 201)} {
			hashes.Find(r, key)
			hashes.Order(r, key)
			keys := []string{key, "k", key}
			hashes.Moved(r, other, keys[:2])
			if !slices.Equal(keys, []string{key, "k", key}) {
				t.Errorf("the keys are %q now", keys)
			}
		}
		hashes.Check(r)
		hashes.Shares(r)
		hashes.Ring(r.Names, r.Weights, r.Nodes)
		for _, w := range []int{-1, 0, 5, 20, 21} {
			for backend := range 5 {
				hashes.Weigh(r, backend-1, w)
			}
		}
		if !isKept(r, was) || !isKept(other, was) {
			t.Errorf("%s is %s now, %s", short(was), short(r), short(other))
		}
	}
	b := []byte("some bytes")
	hashes.Sum32(b[:5])
	hashes.Sum64(b[:5])
	hashes.On32(1, b[:5])
	hashes.On64(1, b[:5])
	if !bytes.Equal(b, []byte("some bytes")) {
		t.Errorf("the bytes are %q now", b)
	}
}

func TestEmptyListsAreNil(t *testing.T) { // R4
	for _, points := range [][]api.HsPoint{nil, {}} {
		r := api.HsRing{Names: []string{"a"}, Weights: []int{0}, Nodes: 1, Points: points}
		checkCheck(t, r, api.OK)
		checkFind(t, r, "k", 0, api.ErrNone)
		checkWeigh(t, r, 0, 1, ring(t, letters(1), []int{1}, 1), api.OK)
	}
	for _, names := range [][]string{nil, {}} {
		for _, weights := range [][]int{nil, {}, {1}} {
			checkRing(t, names, weights, 1, api.HsRing{}, api.ErrLong)
		}
	}
	for _, weights := range [][]int{nil, {}} {
		checkRing(t, letters(1), weights, 1, api.HsRing{}, api.ErrArg)
	}
	one := ring(t, letters(1), []int{1}, 1)
	for _, keys := range [][]string{nil, {}} {
		checkMoved(t, one, one, keys, nil, api.OK)
	}
}

func TestAllArgumentsAreAccepted(t *testing.T) { // P11.8, R1
	much := strings.Repeat("\x00\xff#a", 1<<18)
	ints := []int{0, 1, -1, 20, 21, 100, math.MaxInt, math.MinInt}
	names := [][]string{nil, {""}, {"a"}, {much}, {"a", "a"}, {"a", much, "b"}, letters(16), make([]string, 1<<16), slices.Repeat([]string{"a"}, 1<<16)}
	weights := [][]int{nil, {0}, {1}, {math.MaxInt, math.MaxInt}, {math.MinInt, 1}, {1, 20, 0}, same(16, 20), same(16, math.MaxInt), make([]int, 1<<16)}
	points := [][]api.HsPoint{nil, {{}}, {{Hash: 5, Backend: -1}}, {{Backend: math.MaxInt}, {Backend: math.MinInt}}, make([]api.HsPoint, 1<<16)}
	for i, l := range names {
		for j, w := range weights {
			for k, n := range ints {
				hashes.Ring(l, w, n)
				r := api.HsRing{Names: l, Weights: w, Nodes: n, Points: points[(i+j+k)%len(points)]}
				hashes.Check(r)
				hashes.Weigh(r, n, ints[j%len(ints)])
				hashes.Find(r, much)
				hashes.Order(r, much)
				hashes.Moved(r, r, l)
				hashes.Shares(r)
			}
		}
	}
	one := ring(t, letters(1), []int{1}, 1)
	for _, n := range ints {
		for _, m := range ints {
			hashes.Weigh(one, n, m)
		}
	}
	hashes.Moved(one, one, make([]string, 1<<20))
	hashes.Moved(one, one, []string{much})
	hashes.Find(one, much)
	hashes.Order(one, much)
	hashes.Sum32([]byte(much))
	hashes.Sum64([]byte(much))
	hashes.On32(math.MaxUint32, []byte(much))
	hashes.On64(math.MaxUint64, []byte(much))
}

func TestResultsOfManyThreads(t *testing.T) { // R6
	r := ring(t, letters(3), []int{1, 2, 0}, 5)
	more := ring(t, letters(3), []int{1, 2, 4}, 5)
	keys := manyKeys(50)
	moved, shares, l := movedOf(r, more, keys), sharesOf(r), orderOf(r, sum32("k"))
	var all sync.WaitGroup
	for range 8 {
		all.Go(func() {
			for range 100 {
				checkRing(t, r.Names, r.Weights, r.Nodes, r, api.OK)
				checkWeigh(t, r, 2, 4, more, api.OK)
				checkFind(t, r, "k", l[0], api.OK)
				checkOrder(t, r, "k", l, api.OK)
				checkMoved(t, r, more, keys, moved, api.OK)
				checkShares(t, r, shares, api.OK)
				checkSums(t, "k")
			}
		})
	}
	all.Wait()
}

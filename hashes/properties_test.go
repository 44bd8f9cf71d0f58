package hashes_test

import (
	"fmt"
	"slices"
	"testing"

	"spillway/api"
	"spillway/hashes"
)

// find is what Find returns for a ring with points.
func find(t *testing.T, r api.HsRing, key string) int {
	t.Helper()
	n, e := hashes.Find(r, key)
	if e != api.OK {
		t.Fatalf("Find(%s, %q) = %d", short(r), key, e)
	}
	return n
}

// order is what Order returns for a ring with points.
func order(t *testing.T, r api.HsRing, key string) []int {
	t.Helper()
	l, e := hashes.Order(r, key)
	if e != api.OK {
		t.Fatalf("Order(%s, %q) = %d", short(r), key, e)
	}
	return l
}

// weigh is what Weigh returns for a weight that may be.
func weigh(t *testing.T, r api.HsRing, backend, weight int) api.HsRing {
	t.Helper()
	x, e := hashes.Weigh(r, backend, weight)
	if e != api.OK {
		t.Fatalf("Weigh(%s, %d, %d) = %d", short(r), backend, weight, e)
	}
	return x
}

// randomRings is rings of many kinds, which look like random ones; some have backends whose points have the same hashes.
func randomRings(t *testing.T, seed uint64, n int) []api.HsRing {
	t.Helper()
	random := numbers(seed)
	var all []api.HsRing
	for range n {
		names := letters(1 + random(6))
		if random(2) == 0 {
			names = append(names, [][]string{alike, crossed}[random(2)]...)
		}
		weights := make([]int, len(names))
		for i := range weights {
			weights[i] = max(0, random(8)-2)
		}
		weights[random(len(weights))] = 3
		all = append(all, ring(t, names, weights, 1+random(9)))
	}
	return all
}

func TestRemovedBackends(t *testing.T) { // P11.5
	keys, met := manyKeys(60), 0
	for _, r := range randomRings(t, 11, 60) {
		for backend := range r.Names {
			out := weigh(t, r, backend, 0)
			if len(out.Points) == 0 {
				continue
			}
			var want []int
			for i, key := range keys {
				l := order(t, r, key)
				if l[0] == backend {
					want = append(want, i)
					l = l[1:]
				}
				if n := find(t, out, key); n != l[0] {
					t.Errorf("%q finds %d without %d in %s, its order is %v", key, n, backend, short(r), l)
				}
			}
			met += len(want)
			checkMoved(t, r, out, keys, want, api.OK)
		}
	}
	if met == 0 {
		t.Error("no key moved")
	}
}

func TestGreaterWeights(t *testing.T) { // P11.5
	keys, met := manyKeys(60), 0
	for _, r := range randomRings(t, 12, 60) {
		for backend, w := range r.Weights {
			more := weigh(t, r, backend, w+1+w%3)
			moved, e := hashes.Moved(r, more, keys)
			if e != api.OK {
				t.Fatalf("Moved = %d", e)
			}
			met += len(moved)
			for i, key := range keys {
				n, was := find(t, more, key), find(t, r, key)
				if n != was && n != backend || slices.Contains(moved, i) != (n != was) {
					t.Errorf("%q moves from %d to %d, as %d is %d in %s", key, was, n, backend, more.Weights[backend], short(r))
				}
			}
		}
	}
	if met == 0 {
		t.Error("no key moved")
	}
}

func TestOrders(t *testing.T) { // P11.6
	for _, r := range randomRings(t, 13, 60) {
		for _, key := range manyKeys(30) {
			l := order(t, r, key)
			if l[0] != find(t, r, key) {
				t.Errorf("Order(%s, %q) = %v, but Find is %d", short(r), key, l, find(t, r, key))
			}
			slices.Sort(l)
			var want []int
			for i, w := range r.Weights {
				if w > 0 {
					want = append(want, i)
				}
			}
			if !slices.Equal(l, want) {
				t.Errorf("Order(%s, %q) has %v, want %v", short(r), key, l, want)
			}
		}
	}
}

func TestSharesTogether(t *testing.T) { // P11.6
	none := 0
	for _, r := range randomRings(t, 14, 200) {
		shares, e := hashes.Shares(r)
		sum, found := uint64(0), make([]bool, len(r.Names))
		for _, n := range shares {
			sum += n
		}
		for i, p := range r.Points {
			if i == 0 || r.Points[i-1].Hash != p.Hash {
				found[p.Backend] = true
			}
		}
		for i, n := range shares {
			if (n == 0) == found[i] {
				t.Errorf("Shares(%s) = %v", short(r), shares)
			}
			if n == 0 && r.Weights[i] > 0 {
				none++
			}
		}
		if e != api.OK || sum != 1<<32 {
			t.Errorf("Shares(%s) = %v, %d", short(r), shares, e)
		}
	}
	if none == 0 {
		t.Error("all backends with points have a share")
	}
}

func TestBackendsWithoutWeight(t *testing.T) { // P11.7
	for _, r := range randomRings(t, 15, 60) {
		for at := range len(r.Names) + 1 {
			names, weights := slices.Insert(slices.Clone(r.Names), at, "other"), slices.Insert(slices.Clone(r.Weights), at, 0)
			x, e := hashes.Ring(names, weights, r.Nodes)
			if e != api.OK {
				t.Fatalf("Ring = %d", e)
			}
			for _, key := range manyKeys(20) {
				want := order(t, r, key)
				for i, n := range want {
					if n >= at {
						want[i]++
					}
				}
				checkFind(t, x, key, want[0], api.OK)
				checkOrder(t, x, key, want, api.OK)
			}
		}
	}
}

func TestKeysAreSpread(t *testing.T) { // P11.3, P11.4
	r := ring(t, letters(4), []int{5, 5, 5, 5}, 50)
	count, shares := make([]int, 4), sharesOf(r)
	for i := range 1000 {
		count[find(t, r, fmt.Sprint("key ", i*i))]++
	}
	for i, n := range count {
		if want := float64(shares[i]) / (1 << 32) * 1000; float64(n) < want/2 || float64(n) > want*2 {
			t.Errorf("%d has %d of 1000 keys, its share is %v", i, n, want)
		}
	}
}

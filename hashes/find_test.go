package hashes_test

import (
	"fmt"
	"math"
	"slices"
	"strings"
	"testing"

	"spillway/api"
	"spillway/hashes"
)

// checkFind fails if Find does not return this.
func checkFind(t *testing.T, r api.HsRing, key string, want int, wantE api.Errno) {
	t.Helper()
	if n, e := hashes.Find(r, key); n != want || e != wantE {
		t.Errorf("Find(%s, %.100q) = %d, %d, want %d, %d", short(r), key, n, e, want, wantE)
	}
}

// checkOrder fails if Order does not return this.
func checkOrder(t *testing.T, r api.HsRing, key string, want []int, wantE api.Errno) {
	t.Helper()
	if l, e := hashes.Order(r, key); !slices.Equal(l, want) || e != wantE {
		t.Errorf("Order(%s, %.100q) = %v, %d, want %v, %d", short(r), key, l, e, want, wantE)
	}
}

// checkKey fails if Find or Order of a ring with points is not what the model says.
func checkKey(t *testing.T, r api.HsRing, key string) {
	t.Helper()
	want := orderOf(r, sum32(key))
	checkFind(t, r, key, want[0], api.OK)
	checkOrder(t, r, key, want, api.OK)
}

// withPoints is rings of many kinds that have points, but not very many of them.
func withPoints(t *testing.T) []api.HsRing {
	t.Helper()
	return slices.DeleteFunc(someRings(t), func(r api.HsRing) bool { return len(r.Points) == 0 || len(r.Points) > 1000 })
}

func TestExamplesOfFind(t *testing.T) { // P11.3
	one := ring(t, letters(1), []int{1}, 1)
	for _, key := range []string{"", "a", "a#0", "any key", "\x00\xff", strings.Repeat("k", 200)} {
		checkFind(t, one, key, 0, api.OK)
		checkOrder(t, one, key, []int{0}, api.OK)
	}
	none := ring(t, letters(3), []int{0, 0, 0}, 100)
	checkFind(t, none, "a", 0, api.ErrNone)
	checkOrder(t, none, "a", nil, api.ErrNone)
}

func TestKeysAtPoints(t *testing.T) { // P11.3
	for _, r := range withPoints(t) {
		for _, i := range []int{0, 1, 2, len(r.Points) / 2, len(r.Points) - 2, len(r.Points) - 1} {
			if i >= 0 && i < len(r.Points) {
				p := r.Points[i]
				for n := range r.Weights[p.Backend] * r.Nodes {
					if key := fmt.Sprint(r.Names[p.Backend], "#", n); sum32(key) == p.Hash {
						checkKey(t, r, key)
					}
				}
			}
		}
	}
}

func TestKeysBesidePoints(t *testing.T) { // P11.3
	k := newKeys()
	for _, h := range []uint32{0, 1, 1 << 31, math.MaxUint32, 123456789} {
		if key := k.with(h); sum32(key) != h || len(key) > 200 {
			t.Fatalf("%q has not the hash %d", key, h)
		}
	}
	for _, r := range withPoints(t) {
		some := []int{0, 1, 2, len(r.Points) / 2, len(r.Points) - 2, len(r.Points) - 1}
		for _, i := range some {
			if i >= 0 && i < len(r.Points) {
				for d := range uint32(5) {
					checkKey(t, r, k.with(r.Points[i].Hash+d-2))
				}
			}
		}
		checkKey(t, r, k.with(0))
		checkKey(t, r, k.with(math.MaxUint32))
	}
}

func TestManyKeys(t *testing.T) { // P11.3
	random := numbers(3)
	for _, r := range withPoints(t) {
		for range 100 {
			b := make([]byte, random(201))
			for i := range b {
				b[i] = byte(random(256))
			}
			checkKey(t, r, string(b))
		}
		each("a#0", 3, func(s string) { checkKey(t, r, s) })
	}
}

func TestKeysOfTheGreatestRing(t *testing.T) { // P11.3
	r := ring(t, letters(16), same(16, 16), 16)
	for i := range 20 {
		checkKey(t, r, strings.Repeat("k", i))
	}
}

func TestKeysWithTheSameHash(t *testing.T) { // P11.3
	r := ring(t, alike, []int{1, 1}, 1)
	x := ring(t, []string{"liquid", "costarring"}, []int{1, 1}, 1)
	for _, key := range []string{"", "a", "b", "liquid", "costarring", "liquid#0", "costarring#0"} {
		checkFind(t, r, key, 0, api.OK)
		checkOrder(t, r, key, []int{0, 1}, api.OK)
		checkFind(t, x, key, 0, api.OK)
		checkOrder(t, x, key, []int{0, 1}, api.OK)
	}
}

func TestErrorsOfKeys(t *testing.T) { // P11.3
	none := ring(t, letters(2), []int{0, 0}, 1)
	one := ring(t, letters(1), []int{1}, 1)
	for _, n := range []int{0, 1, 199, 200, 201, 202, 1000, 1 << 20} {
		key, e, other := strings.Repeat("k", n), api.OK, api.ErrNone
		if n > 200 {
			e, other = api.ErrLong, api.ErrLong
		}
		checkFind(t, one, key, 0, e)
		checkOrder(t, one, key, make([]int, 1)[:min(1, max(0, 201-n))], e)
		checkFind(t, none, key, 0, other)
		checkOrder(t, none, key, nil, other)
	}
}

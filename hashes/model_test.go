package hashes_test

import (
	"fmt"
	"hash/fnv"
	"math/big"
	"regexp"
	"slices"
	"sort"
	"strings"
	"testing"

	"spillway/api"
)

// The numbers of the chapter, in its own words.
const (
	begin32  = "2166136261"
	factor32 = "16777619"
	begin64  = "14695981039346656037"
	factor64 = "1099511628211"
)

// number is the number that decimal digits say.
func number(digits string) *big.Int {
	n, _ := new(big.Int).SetString(digits, 10)
	return n
}

// goOn goes on from a hash with some bits, by numbers of any size and a modulus.
func goOn(bits uint, factor string, h uint64, b []byte) uint64 {
	n, by, modulus := new(big.Int).SetUint64(h), number(factor), new(big.Int).Lsh(big.NewInt(1), bits)
	for _, c := range b {
		n.Xor(n, big.NewInt(int64(c)))
		n.Mul(n, by).Mod(n, modulus)
	}
	return n.Uint64()
}

// on32 goes on from a hash with 32 bits.
func on32(h uint32, b []byte) uint32 { return uint32(goOn(32, factor32, uint64(h), b)) }

// on64 goes on from a hash with 64 bits.
func on64(h uint64, b []byte) uint64 { return goOn(64, factor64, h, b) }

// sum32 is the hash with 32 bits as the library computes it.
func sum32(s string) uint32 {
	h := fnv.New32a()
	h.Write([]byte(s))
	return h.Sum32()
}

// sum64 is the hash with 64 bits as the library computes it.
func sum64(s string) uint64 {
	h := fnv.New64a()
	h.Write([]byte(s))
	return h.Sum64()
}

var nameLike = regexp.MustCompile(`^[!-~]{1,32}$`)

// faultOf is the error of Ring, from a list of all of them in their order.
func faultOf(names []string, weights []int, nodes int) api.Errno {
	sum, low, high, form, met := 0, 0, 0, true, map[string]bool{}
	for _, w := range weights {
		sum, low, high = sum+w, min(low, w), max(high, w)
	}
	for _, s := range names {
		form, met[s] = form && nameLike.MatchString(s), true
	}
	for _, x := range []struct {
		is bool
		e  api.Errno
	}{
		{len(names) < 1, api.ErrLong},
		{len(names) > 16, api.ErrLong},
		{len(names) != len(weights), api.ErrArg},
		{low < 0 || high > 20 || nodes < 1 || nodes > 100, api.ErrRange},
		{!form, api.ErrForm},
		{len(met) < len(names), api.ErrTwice},
		{sum*nodes > 4096, api.ErrLong},
	} {
		if x.is {
			return x.e
		}
	}
	return api.OK
}

// ringOf is what Ring returns: its points are written as strings that are ordered as they are.
func ringOf(names []string, weights []int, nodes int) (api.HsRing, api.Errno) {
	if e := faultOf(names, weights, nodes); e != api.OK {
		return api.HsRing{}, e
	}
	var lines []string
	for i, s := range names {
		for n := 0; n < weights[i]*nodes; n++ {
			lines = append(lines, fmt.Sprintf("%010d %02d", sum32(fmt.Sprint(s, "#", n)), i))
		}
	}
	sort.Strings(lines)
	r := api.HsRing{Names: slices.Clone(names), Weights: slices.Clone(weights), Nodes: nodes, Points: make([]api.HsPoint, len(lines))}
	for i, s := range lines {
		fmt.Sscanf(s, "%d %d", &r.Points[i].Hash, &r.Points[i].Backend)
	}
	return r, api.OK
}

// check is what Check returns.
func check(r api.HsRing) api.Errno {
	right, e := ringOf(r.Names, r.Weights, r.Nodes)
	if e == api.OK && !slices.Equal(r.Points, right.Points) {
		return api.ErrForm
	}
	return e
}

// way is how far a point is from a hash on, with its backend for those that are as far.
func way(p api.HsPoint, h uint32) uint64 { return uint64(p.Hash-h)<<8 | uint64(p.Backend) }

// orderOf is the order of a hash: backends by how far their nearest points are.
func orderOf(r api.HsRing, h uint32) []int {
	nearest := map[int]uint64{}
	for _, p := range r.Points {
		if d, ok := nearest[p.Backend]; !ok || way(p, h) < d {
			nearest[p.Backend] = way(p, h)
		}
	}
	var all []int
	for i := range nearest {
		all = append(all, i)
	}
	sort.Slice(all, func(i, j int) bool { return nearest[all[i]] < nearest[all[j]] })
	return all
}

// sharesOf is how many hashes find each backend: those after one hash with points, up to the next one.
func sharesOf(r api.HsRing) []uint64 {
	met := map[uint32]bool{}
	for _, p := range r.Points {
		met[p.Hash] = true
	}
	all := make([]uint64, len(r.Names))
	for h := range met {
		gap := uint64(1 << 32)
		for g := range met {
			if g != h {
				gap = min(gap, uint64(h-g))
			}
		}
		all[orderOf(r, h)[0]] += gap
	}
	return all
}

// keys finds keys by their hashes.
type keys map[uint32]string

// newKeys returns what the beginnings of keys lead to.
func newKeys() keys {
	all := keys{}
	for i := range 1 << 18 {
		b := fmt.Appendf(nil, "%05x", i)
		all[sum32(string(b))] = string(b)
	}
	return all
}

// with returns a key with a hash: it goes back from the hash with some last bytes, until this is where a beginning leads.
func (k keys) with(h uint32) string {
	inverse := uint32(new(big.Int).ModInverse(number(factor32), big.NewInt(1<<32)).Uint64())
	for i := uint32(0); ; i++ {
		last := []byte{byte(i), byte(i >> 8), byte(i >> 16)}
		at := h
		for _, c := range slices.Backward(last) {
			at = at*inverse ^ uint32(c)
		}
		if s, ok := k[at]; ok {
			return s + string(last)
		}
	}
}

// numbers returns numbers below n that look like random ones.
func numbers(seed uint64) func(n int) int {
	return func(n int) int {
		seed = seed*6364136223846793005 + 1442695040888963407
		return int(seed >> 33 % uint64(n))
	}
}

// each calls f with all strings of at most n of the bytes of alphabet.
func each(alphabet string, n int, f func(s string)) {
	f("")
	if n == 0 {
		return
	}
	for i := range len(alphabet) {
		each(alphabet, n-1, func(s string) { f(alphabet[i:i+1] + s) })
	}
}

// Names with points that have the same hash: alike have all of them with the same n, crossed one's 0 to 7 with the other's 7 to 0, and self has 721 with its own 0.
var (
	alike   = []string{"costarring", "liquid"}
	crossed = []string{"b9846", "b10768"}
	self    = "n52299"
)

// letters is n names.
func letters(n int) []string { return strings.Split("abcdefghijklmnopqrstuvwxyz"[:n], "") }

// same is n weights that are w.
func same(n, w int) []int { return slices.Repeat([]int{w}, n) }

// ring returns the ring of the model.
func ring(t *testing.T, names []string, weights []int, nodes int) api.HsRing {
	t.Helper()
	r, e := ringOf(names, weights, nodes)
	if e != api.OK {
		t.Fatalf("no ring of %q %v %d: %d", names, weights, nodes, e)
	}
	return r
}

// someRings is rings of many kinds.
func someRings(t *testing.T) []api.HsRing {
	t.Helper()
	return []api.HsRing{
		ring(t, letters(1), []int{1}, 1),
		ring(t, letters(1), []int{0}, 1),
		ring(t, letters(2), []int{1, 1}, 1),
		ring(t, letters(3), []int{1, 2, 0}, 5),
		ring(t, letters(3), []int{0, 0, 0}, 100),
		ring(t, letters(4), []int{0, 20, 0, 1}, 10),
		ring(t, alike, []int{1, 1}, 1),
		ring(t, alike, []int{2, 1}, 3),
		ring(t, []string{"a", "liquid", "costarring", "b"}, []int{1, 3, 2, 0}, 4),
		ring(t, crossed, []int{1, 1}, 8),
		ring(t, []string{"c", crossed[1], crossed[0]}, []int{2, 1, 1}, 8),
		ring(t, []string{self}, []int{8}, 100),
		ring(t, []string{"a", self, "b"}, []int{1, 20, 1}, 37),
		ring(t, letters(16), same(16, 1), 3),
		ring(t, letters(16), same(16, 16), 16),
	}
}

// equal reports whether two rings are the same.
func equal(a, b api.HsRing) bool {
	return slices.Equal(a.Names, b.Names) && slices.Equal(a.Weights, b.Weights) && a.Nodes == b.Nodes && slices.Equal(a.Points, b.Points)
}

// short is a ring as a text that is not too long.
func short(r api.HsRing) string { return fmt.Sprintf("%.400q", fmt.Sprint(r)) }

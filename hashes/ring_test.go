package hashes_test

import (
	"math"
	"slices"
	"strings"
	"testing"

	"spillway/api"
	"spillway/hashes"
)

// checkRing fails if Ring does not return this, or Check and Weigh do not return its error.
func checkRing(t *testing.T, names []string, weights []int, nodes int, want api.HsRing, wantE api.Errno) {
	t.Helper()
	r, e := hashes.Ring(names, weights, nodes)
	if e != wantE || !equal(r, want) {
		t.Errorf("Ring(%.200q, %v, %d) = %s, %d, want %s, %d", names, weights, nodes, short(r), e, short(want), wantE)
	}
	given := api.HsRing{Names: names, Weights: weights, Nodes: nodes, Points: want.Points}
	checkCheck(t, given, wantE)
}

// checkCheck fails if Check does not return this error, and the functions with rings not this one first.
func checkCheck(t *testing.T, r api.HsRing, want api.Errno) {
	t.Helper()
	if e := hashes.Check(r); e != want {
		t.Errorf("Check(%s) = %d, want %d", short(r), e, want)
	}
	if want != api.OK {
		checkFirst(t, r, want)
	}
}

// checkFirst fails if a function with rings does not return the error of Check first.
func checkFirst(t *testing.T, r api.HsRing, want api.Errno) {
	t.Helper()
	long := strings.Repeat("k", 201)
	good, _ := ringOf(letters(2), []int{1, 1}, 1)
	other, _ := ringOf(letters(1), []int{0}, 1)
	for _, weight := range []int{-1, 1} {
		for _, backend := range []int{-1, 0, 100} {
			checkWeigh(t, r, backend, weight, api.HsRing{}, want)
		}
	}
	for _, key := range []string{"", "k", long} {
		checkFind(t, r, key, 0, want)
		checkOrder(t, r, key, nil, want)
		checkMoved(t, r, r, []string{key}, nil, want)
		checkMoved(t, good, r, []string{key}, nil, want)
		checkMoved(t, r, good, make([]string, 1001), nil, want)
		checkMoved(t, other, r, []string{key}, nil, want)
		checkMoved(t, r, other, []string{key}, nil, want)
	}
	checkShares(t, r, nil, want)
}

// checkWeigh fails if Weigh does not return this.
func checkWeigh(t *testing.T, r api.HsRing, backend, weight int, want api.HsRing, wantE api.Errno) {
	t.Helper()
	if x, e := hashes.Weigh(r, backend, weight); e != wantE || !equal(x, want) {
		t.Errorf("Weigh(%s, %d, %d) = %s, %d, want %s, %d", short(r), backend, weight, short(x), e, short(want), wantE)
	}
}

func TestExamplesOfRings(t *testing.T) { // P11.2
	checkRing(t, []string{"a", "a"}, []int{1, 1}, 1, api.HsRing{}, api.ErrTwice)
	checkRing(t, []string{"a"}, []int{21}, 1, api.HsRing{}, api.ErrRange)
	checkRing(t, letters(16), same(16, 20), 100, api.HsRing{}, api.ErrLong)
	one := api.HsRing{Names: []string{"a"}, Weights: []int{1}, Nodes: 1, Points: []api.HsPoint{{Hash: sum32("a#0")}}}
	checkRing(t, []string{"a"}, []int{1}, 1, one, api.OK)
	two := api.HsRing{Names: []string{"a", "b"}, Weights: []int{2, 1}, Nodes: 1, Points: []api.HsPoint{{Hash: 559601318, Backend: 1}, {Hash: 4021032132}, {Hash: 4037809751}}}
	checkRing(t, []string{"a", "b"}, []int{2, 1}, 1, two, api.OK)
}

func TestRings(t *testing.T) { // P11.2
	for _, r := range someRings(t) {
		checkRing(t, r.Names, r.Weights, r.Nodes, r, api.OK)
	}
	random := numbers(2)
	for range 100 {
		names, weights := letters(1+random(16)), []int{}
		for i := range names {
			names[i] += strings.Repeat(string(rune(33+random(94))), random(32))
			weights = append(weights, random(21))
		}
		nodes := 1 + random(24)
		want, e := ringOf(names, weights, nodes)
		checkRing(t, names, weights, nodes, want, e)
	}
}

func TestNames(t *testing.T) { // P11.2
	long := strings.Repeat("x", 32)
	for _, s := range []string{"", "!", "~", "#", "#0", "a#", "\"\\", long, long + "x", long[:31], strings.Repeat("long", 1000), "ä", "\xff", "a b", " a", "a ", "a\n", "\x00", "a\x7f"} {
		checkNames(t, s)
	}
	for c := range 256 {
		for i := range 3 {
			b := []byte("abc")
			b[i] = byte(c)
			checkNames(t, string(b))
		}
		checkNames(t, long[1:]+string([]byte{byte(c)}))
		checkNames(t, string([]byte{byte(c)}))
	}
	checkRing(t, []string{"a#1", "a", "A", "a#", "aa"}, same(5, 0), 1, api.HsRing{Names: []string{"a#1", "a", "A", "a#", "aa"}, Weights: same(5, 0), Nodes: 1}, api.OK)
}

// checkNames fails if Ring with this name at different places is not what it should be.
func checkNames(t *testing.T, name string) {
	t.Helper()
	for _, names := range [][]string{{name}, {name, "other"}, {"other", name}, {"other", name, "another"}} {
		want, e := ringOf(names, same(len(names), 1), 2)
		checkRing(t, names, same(len(names), 1), 2, want, e)
	}
}

func TestNamesTwice(t *testing.T) { // P11.2
	for i := range 16 {
		for j := range i {
			names := letters(16)
			names[i] = names[j]
			checkRing(t, names, same(16, 1), 1, api.HsRing{}, api.ErrTwice)
		}
	}
}

func TestLimitsOfRings(t *testing.T) { // P11.2
	for n := range 20 {
		for _, w := range []int{0, 1} {
			want, e := ringOf(letters(n), same(n, w), 1)
			checkRing(t, letters(n), same(n, w), 1, want, e)
		}
		for _, m := range []int{0, n - 1, n + 1, 16, 17} {
			if m >= 0 {
				want, e := ringOf(letters(n), same(m, 1), 1)
				checkRing(t, letters(n), same(m, 1), 1, want, e)
			}
		}
	}
	for _, w := range []int{math.MinInt, -1 << 32, -2, -1, 0, 1, 19, 20, 21, 22, 1<<32 + 1, math.MaxInt} {
		for i := range 3 {
			weights := same(3, 2)
			weights[i] = w
			want, e := ringOf(letters(3), weights, 3)
			checkRing(t, letters(3), weights, 3, want, e)
		}
	}
	for _, nodes := range []int{math.MinInt, -1, 0, 1, 2, 99, 100, 101, 1<<32 + 1, math.MaxInt} {
		for _, w := range []int{0, 1} {
			want, e := ringOf(letters(2), same(2, w), nodes)
			checkRing(t, letters(2), same(2, w), nodes, want, e)
		}
	}
}

func TestLimitOfPoints(t *testing.T) { // P11.2
	for _, x := range []struct {
		weights []int
		nodes   int
		points  int
	}{
		{[]int{20, 20, 20, 4}, 64, 4096},
		{append(same(12, 20), 1), 17, 4097},
		{append(same(12, 20), 0), 17, 4080},
		{[]int{20, 20, 0, 1}, 100, 4100},
		{[]int{20, 20, 0, 0}, 100, 4000},
		{append(same(13, 19), 9), 16, 4096},
		{same(16, 16), 16, 4096},
		{same(16, 16), 17, 4352},
	} {
		names := letters(len(x.weights))
		want, e := ringOf(names, x.weights, x.nodes)
		if (e == api.OK) != (x.points <= 4096) || e == api.OK && len(want.Points) != x.points {
			t.Fatalf("%d points, %d", len(want.Points), e)
		}
		checkRing(t, names, x.weights, x.nodes, want, e)
	}
}

func TestErrorsOfRingsInOrder(t *testing.T) { // P11.2
	errors := []api.Errno{api.ErrLong, api.ErrArg, api.ErrRange, api.ErrForm, api.ErrTwice, api.ErrLong}
	for faults := range 1 << 6 {
		has := func(i int) bool { return faults>>i&1 == 1 }
		for variant := range 4 {
			names, weights, nodes := letters(16), same(16, 16), 16
			if has(5) {
				nodes = 17
			}
			if has(4) {
				names[9] = names[3+variant]
			}
			if has(3) {
				names[1] = []string{"", "a b", strings.Repeat("x", 33), "\xff"}[variant]
			}
			if has(2) && variant < 2 {
				weights[14*variant] = []int{-1, 21}[variant]
			} else if has(2) {
				nodes = []int{0, 101}[variant-2]
			}
			if has(1) {
				weights = append(weights[:15], same(2*(variant%2), weights[14])...)
			}
			if has(0) && variant%2 == 0 {
				names = append(names, "more")
			} else if has(0) {
				names = nil
			}
			want := api.OK
			for i, e := range errors {
				if want == api.OK && has(i) {
					want = e
				}
			}
			if want != faultOf(names, weights, nodes) {
				t.Fatalf("the model has another error of %q, %v, %d", names, weights, nodes)
			}
			if want != api.OK {
				checkRing(t, names, weights, nodes, api.HsRing{}, want)
			}
		}
	}
}

// changes is rings that differ from one in one place.
func changes(r api.HsRing, at int) []api.HsRing {
	var all []api.HsRing
	change := func(f func(x *api.HsRing)) {
		x := api.HsRing{Names: slices.Clone(r.Names), Weights: slices.Clone(r.Weights), Nodes: r.Nodes, Points: slices.Clone(r.Points)}
		f(&x)
		all = append(all, x)
	}
	change(func(x *api.HsRing) { x.Points = append(x.Points, api.HsPoint{Hash: math.MaxUint32}) })
	change(func(x *api.HsRing) { x.Points = slices.Insert(x.Points, 0, api.HsPoint{}) })
	change(func(x *api.HsRing) { x.Nodes++ })
	change(func(x *api.HsRing) { x.Nodes-- })
	change(func(x *api.HsRing) { x.Names[at%len(x.Names)] += "x" })
	change(func(x *api.HsRing) { x.Weights[at%len(x.Weights)]++ })
	change(func(x *api.HsRing) { x.Weights[at%len(x.Weights)]-- })
	change(func(x *api.HsRing) { slices.Reverse(x.Names) })
	change(func(x *api.HsRing) { x.Names = nil })
	if n := len(r.Points); n > 0 {
		i := at % n
		change(func(x *api.HsRing) { x.Points[i].Hash++ })
		change(func(x *api.HsRing) { x.Points[i].Hash-- })
		change(func(x *api.HsRing) { x.Points[i].Backend++ })
		change(func(x *api.HsRing) { x.Points[i].Backend-- })
		change(func(x *api.HsRing) { x.Points[i].Backend = math.MaxInt })
		change(func(x *api.HsRing) { x.Points = slices.Delete(x.Points, i, i+1) })
		change(func(x *api.HsRing) { x.Points = slices.Insert(x.Points, i, x.Points[i]) })
		change(func(x *api.HsRing) { x.Points[i], x.Points[n-1] = x.Points[n-1], x.Points[i] })
		change(func(x *api.HsRing) { x.Points = nil })
		change(func(x *api.HsRing) { slices.Reverse(x.Points) })
	}
	return all
}

func TestCheckOfChangedRings(t *testing.T) { // P11.2
	wrong := 0
	for _, r := range someRings(t) {
		for _, at := range []int{0, 1, 7, 4095} {
			for _, x := range changes(r, at) {
				want := check(x)
				if want == api.ErrForm {
					wrong++
				}
				checkCheck(t, x, want)
			}
		}
	}
	if wrong < 200 {
		t.Errorf("only %d rings with other points", wrong)
	}
	checkCheck(t, api.HsRing{}, api.ErrLong)
	checkCheck(t, api.HsRing{Points: []api.HsPoint{{}}}, api.ErrLong)
}

func TestPointsWithTheSameHash(t *testing.T) { // P11.2
	r := ring(t, alike, []int{1, 1}, 1)
	h := sum32("liquid#0")
	if !slices.Equal(r.Points, []api.HsPoint{{Hash: h}, {Hash: h, Backend: 1}}) {
		t.Fatalf("points %v", r.Points)
	}
	checkRing(t, r.Names, r.Weights, r.Nodes, r, api.OK)
	slices.Reverse(r.Points)
	checkCheck(t, r, api.ErrForm)
	x := ring(t, []string{self}, []int{8}, 100)
	met := map[uint32]bool{}
	for _, p := range x.Points {
		met[p.Hash] = true
	}
	if len(x.Points) != 800 || len(met) >= 800 {
		t.Fatalf("%d points, %d hashes", len(x.Points), len(met))
	}
	checkRing(t, x.Names, x.Weights, x.Nodes, x, api.OK)
	x.Points = slices.Compact(x.Points)
	checkCheck(t, x, api.ErrForm)
}

func TestWeigh(t *testing.T) { // P11.2
	for _, r := range someRings(t) {
		for backend := range r.Names {
			for _, w := range []int{0, 1, 2, 7, 20, r.Weights[backend], -1, 21, math.MinInt, math.MaxInt} {
				weights := slices.Clone(r.Weights)
				weights[backend] = w
				want, e := ringOf(r.Names, weights, r.Nodes)
				checkWeigh(t, r, backend, w, want, e)
			}
		}
		for _, w := range []int{-1, 0, 1, 20, 21} {
			for _, backend := range []int{math.MinInt, -1, len(r.Names), len(r.Names) + 1, 16, math.MaxInt} {
				checkWeigh(t, r, backend, w, api.HsRing{}, api.ErrArg)
			}
		}
	}
	r := ring(t, letters(4), []int{20, 20, 1, 0}, 97)
	checkWeigh(t, r, 2, 3, api.HsRing{}, api.ErrLong)
	checkWeigh(t, r, 3, 1, ring(t, letters(4), []int{20, 20, 1, 1}, 97), api.OK)
	checkWeigh(t, r, 3, 2, api.HsRing{}, api.ErrLong)
}

package network_test

import (
	"cmp"
	"math"
	"slices"
	"sync"
	"testing"
	"unsafe"

	"spillway/api"
	"spillway/network"
)

// span is memory, from an address up to another one.
type span struct {
	from, to uintptr
	what     string
}

// spanOf adds the memory of a slice, with the room behind it, to a list.
func spanOf[T any](all []span, what string, l []T) []span {
	if cap(l) == 0 {
		return all
	}
	from := uintptr(unsafe.Pointer(unsafe.SliceData(l)))
	var x T
	return append(all, span{from, from + uintptr(cap(l))*unsafe.Sizeof(x), what})
}

// spansOfConn adds the memory that a connection leads to.
func spansOfConn(all []span, what string, c api.NwConn) []span {
	all = spanOf(spanOf(all, what+" In", c.In), what+" Out", c.Out)
	all = spanOf(spanOf(all, what+" Up", c.Up), what+" Down", c.Down)
	for _, p := range slices.Concat(c.Up, c.Down) {
		all = spanOf(all, what+" Bytes", p.Bytes)
	}
	return all
}

// spansOf adds the memory that a network leads to.
func spansOf(all []span, what string, s api.NwState) []span {
	all = spanOf(spanOf(all, what+" Plans", s.Plans), what+" Conns", s.Conns)
	for _, c := range s.Conns {
		all = spansOfConn(all, what, c)
	}
	return all
}

// spansOfResult adds the memory that a result leads to.
func spansOfResult(all []span, what string, c call, r result) []span {
	if slices.Contains(changing, c.name) {
		all = spansOf(all, what, r.s)
	}
	all = spanOf(spanOf(all, what+" bytes", r.b), what+" events", r.events)
	return spansOfConn(all, what+" found", r.conn)
}

// checkApart fails if two of the spans share memory.
func checkApart(t *testing.T, c call, all []span) {
	t.Helper()
	slices.SortFunc(all, func(a, b span) int { return cmp.Compare(a.from, b.from) })
	for i := 1; i < len(all); i++ {
		if all[i].from < all[i-1].to {
			t.Fatalf("%s: %s and %s share memory", short(c), all[i-1].what, all[i].what)
		}
	}
}

// wrongNetworks are networks that are not valid, with something in all parts.
func wrongNetworks() []api.NwState {
	late := state(9, 15, conns()...)
	late.Now = 1
	wide := state(9, 15, conns()...)
	wide.Plans = slices.Repeat(wide.Plans, 4)
	return []api.NwState{{}, late, wide, state(9, 2, full(5)), state(-1, 7, full(6))}
}

func TestResultsAreNewMemory(t *testing.T) { // P12.9, R3
	for _, s := range append(append(small(), wrongNetworks()...), random(10)...) {
		s = cloned(s)
		for _, c := range someCalls() {
			first, second := do(s, c), do(s, c)
			all := spansOfResult(spansOfResult(spansOf(nil, "the argument", s), "a result", c, first), "another result", c, second)
			checkApart(t, c, all)
		}
	}
}

func TestPlansAreNewMemory(t *testing.T) { // P12.9, R3
	given := plans()
	a, _ := network.New(given)
	b, _ := network.New(given)
	checkApart(t, call{name: "new"}, spansOf(spansOf(spanOf(nil, "the argument", given), "a result", a), "another result", b))
	given[0].Delay = 77
	if !same(a, state(0, 1)) || !same(b, state(0, 1)) {
		t.Errorf("%s, %s", short(a), short(b))
	}
}

func TestBytesAreNotKept(t *testing.T) { // P12.9, R3
	s := state(9, 2, up(1))
	for _, f := range []func(b []byte) api.NwState{
		func(b []byte) api.NwState { u, _, _ := network.Write(s, 1, b); return u },
		func(b []byte) api.NwState { u, _ := network.Put(s, 1, b, 0); return u },
	} {
		b := []byte("abcd")
		u, want := f(b[:3]), f([]byte("abc"))
		checkApart(t, call{}, spansOf(spanOf(nil, "the argument", b), "the result", u))
		if string(b) != "abcd" || !same(u, want) {
			t.Errorf("%q: %s, want %s", b, short(u), short(want))
		}
	}
}

// roomy is a slice in other memory, with room behind it in which something is, and all of that memory.
func roomy[T any](l []T, behind T) ([]T, []T) {
	all := append(slices.Clone(l), behind, behind, behind)
	return all[:len(l)], all
}

// arguments are a network in other memory, with room behind all of its lists, and a function that says whether all of it is as it was.
func arguments(s api.NwState) (api.NwState, func() bool) {
	u := cloned(s)
	var kept []func() bool
	bytes := func(b []byte) []byte {
		part, all := roomy(b, '!')
		was := string(all)
		kept = append(kept, func() bool { return string(all) == was })
		return part
	}
	pieces := func(l []api.NwPiece) []api.NwPiece {
		for i := range l {
			l[i].Bytes = bytes(l[i].Bytes)
		}
		part, all := roomy(l, piece(77, "behind"))
		was := clonedPieces(all)
		kept = append(kept, func() bool { return samePieces(all, was) })
		return part
	}
	for i := range u.Conns {
		c := &u.Conns[i]
		c.In, c.Out, c.Up, c.Down = bytes(c.In), bytes(c.Out), pieces(c.Up), pieces(c.Down)
	}
	var conns []api.NwConn
	var plans []api.NwPlan
	u.Conns, conns = roomy(u.Conns, up(77))
	u.Plans, plans = roomy(u.Plans, api.NwPlan{Delay: 77})
	was := cloned(api.NwState{Plans: plans, Conns: conns})
	kept = append(kept, func() bool { return same(api.NwState{Plans: plans, Conns: conns}, was) })
	return u, func() bool {
		return !slices.ContainsFunc(kept, func(f func() bool) bool { return !f() })
	}
}

func TestArgumentsAreNotModified(t *testing.T) { // P12.9, R3
	for _, s := range append(append(small(), wrongNetworks()...), random(10)...) {
		given, kept := arguments(s)
		for _, c := range someCalls() {
			do(given, c)
			if !kept() || !same(given, s) {
				t.Fatalf("%s has changed %s", short(c), short(s))
			}
		}
	}
	given, all := roomy(plans(), api.NwPlan{Delay: 77})
	was := slices.Clone(all)
	network.New(given)
	if !slices.Equal(all, was) {
		t.Errorf("New has changed %v", given)
	}
}

// emptied is a network in which lists that are nil are empty.
func emptied(s api.NwState) api.NwState {
	s = cloned(s)
	s.Plans, s.Conns = append([]api.NwPlan{}, s.Plans...), append([]api.NwConn{}, s.Conns...)
	for i := range s.Conns {
		c := &s.Conns[i]
		c.Up, c.Down = append([]api.NwPiece{}, c.Up...), append([]api.NwPiece{}, c.Down...)
		c.In, c.Out = append([]byte{}, c.In...), append([]byte{}, c.Out...)
	}
	return s
}

func TestNilAndEmptyAreTheSame(t *testing.T) { // R4
	for _, s := range append(small(), wrongNetworks()...) {
		for _, c := range someCalls() {
			if a, b := do(emptied(s), c), do(s, c); !sameResult(a, b) {
				t.Errorf("%s: %s of empty lists, %s of nil", short(c), short(a), short(b))
			}
		}
	}
	a, e := network.New([]api.NwPlan{})
	if e != api.OK || !same(a, api.NwState{Next: 1}) {
		t.Errorf("New: %s, %d", short(a), e)
	}
	for _, b := range [][]byte{nil, {}} {
		s := state(9, 2, up(1))
		u, n, e := network.Write(s, 1, b)
		v, f := network.Put(s, 1, b, 0)
		if n != 0 || e != api.OK || f != api.OK || !same(u, s) || !same(v, s) {
			t.Errorf("Write, Put of nothing: %s, %d, %d, %s, %d", short(u), n, e, short(v), f)
		}
	}
}

func TestAnyArgumentsAreAccepted(t *testing.T) { // R1, P12.9
	ints := []int64{math.MinInt64, math.MinInt64 + 1, -1 << 32, -2, -1, 0, 1, 2, 3, 6, 10, maxDelay, maxDelay + 1, maxTime, never, maxHandle, math.MaxInt64 - 1, math.MaxInt64}
	wild := api.NwConn{Id: 1, Backend: math.MaxInt, Status: math.MinInt, Born: math.MinInt64, Ready: math.MaxInt64, Sent: math.MinInt64, Up: make([]api.NwPiece, 1000), UpEnd: -1, DownEnd: 77, UpAt: math.MaxInt64, InEnd: math.MaxInt}
	for _, s := range append(wrongNetworks(),
		state(9, 15, conns()...),
		state(maxTime, maxHandle, conns()...),
		state(math.MaxInt64, math.MinInt64, wild),
		state(9, 2, wild),
		state(9, math.MinInt64, full(math.MaxInt64)),
		api.NwState{Next: math.MinInt64, Conns: make([]api.NwConn, 600)},
		api.NwState{Next: 2, Conns: []api.NwConn{{Id: 1}}},
		api.NwState{Next: 1, Plans: []api.NwPlan{{Delay: math.MaxInt64, Window: math.MaxInt}}},
	) {
		for _, name := range names {
			for _, n := range ints {
				for _, m := range ints {
					r := do(s, call{name: name, n: n, m: m, delay: m, b: "abc", plan: api.NwPlan{Fail: int(m), Delay: n, Window: int(n)}})
					if faultOf(s) == api.OK && faultOf(r.s) != api.OK {
						t.Fatalf("%s with %d, %d: the network %s is not valid", name, n, m, short(r.s))
					}
					if r.e != api.OK && (!same(r.s, s) || r.n != 0 || len(r.b) > 0 || r.end != 0 || len(r.events) > 0 || !sameConn(r.conn, api.NwConn{}) || r.count != (api.NwCount{})) {
						t.Fatalf("%s with %d, %d: %s with an error", name, n, m, short(r))
					}
				}
			}
		}
	}
	s := state(9, 2, up(1))
	huge := make([]byte, 1<<26)
	if _, n, e := network.Write(s, 1, huge); n != 4 || e != api.OK {
		t.Errorf("Write: %d, %d", n, e)
	}
	if _, e := network.Put(s, 1, huge, 0); e != api.ErrLong {
		t.Errorf("Put: %d", e)
	}
	if _, e := network.New(make([]api.NwPlan, 1<<16)); e != api.ErrLong {
		t.Errorf("New: %d", e)
	}
}

func TestResultsOfManyThreads(t *testing.T) { // R6
	s := state(9, 15, conns()...)
	var all sync.WaitGroup
	for range 8 {
		all.Go(func() {
			for range 20 {
				for _, name := range names {
					for id := range int64(16) {
						c := call{name: name, n: id, m: 1, b: "abc", plan: api.NwPlan{Window: 1}}
						if got, want := do(s, c), model(s, c); !sameResult(got, want) {
							t.Errorf("%s: %s, want %s", short(c), short(got), short(want))
						}
					}
				}
			}
		})
	}
	all.Wait()
}

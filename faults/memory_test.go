package faults_test

import (
	"errors"
	"slices"
	"strings"
	"sync"
	"testing"
	"unsafe"

	"spillway/api"
	"spillway/faults"
)

// shared reports whether two strings share memory.
func shared(a, b string) bool {
	if a == "" || b == "" {
		return false
	}
	from, to := uintptr(unsafe.Pointer(unsafe.StringData(a))), uintptr(unsafe.Pointer(unsafe.StringData(b)))
	return from < to+uintptr(len(b)) && to < from+uintptr(len(a))
}

// checkFresh fails if two of the strings share memory.
func checkFresh(t *testing.T, l ...string) {
	t.Helper()
	for i, a := range l {
		for _, b := range l[:i] {
			if shared(a, b) {
				t.Errorf("%q and %q share memory", a, b)
			}
		}
	}
}

// opsOf returns the operations that the functions return for err.
func opsOf(err error) []string {
	var l []string
	for range 2 {
		nodes, _ := faults.Chain(err)
		for _, n := range nodes {
			l = append(l, n.Link.Op)
		}
		first, _ := faults.First(err, api.FaReset)
		root, _ := faults.Root(err)
		var link *faults.Link
		errors.As(err, &link)
		text, _ := faults.Text(err)
		l = append(l, first.Op, root.Op, link.Fault().Op, text, err.Error())
	}
	return l
}

func TestStringsAreFresh(t *testing.T) { // P3.8, R3
	ops := []string{strings.Repeat("a", 9), strings.Repeat("b", 9)}
	x := joined(leaf(at(ops[0], -1, 0, api.FaReset)), above(at(ops[1], 3, 0, 2), leaf(at(ops[1], 3, 0, 5))))
	checkFresh(t, append(ops, opsOf(made(t, x))...)...)
	err, _ := faults.Build(x.nodes(0))
	checkFresh(t, append(ops, opsOf(err)...)...)
	text := x.text()
	err, _ = faults.Parse(text)
	checkFresh(t, append(ops, append(opsOf(err), text)...)...)
	checkFault(t, err, x)
}

func TestSlicesAreFresh(t *testing.T) { // P3.1, P3.8, R3
	x := exampleJ()
	errs := append(make([]error, 0, 5), made(t, x.below[0]), made(t, x.below[1]))
	j, e := faults.Join(errs...)
	if e != api.OK {
		t.Fatalf("Join: %d", e)
	}
	checkFault(t, j, x)
	if full := errs[:5]; full[0] == nil || full[2] != nil {
		t.Errorf("Join has changed its arguments to %v", full)
	}
	clear(errs)
	checkFault(t, j, x)
	first, second := j.(*faults.Joined).Unwrap(), j.(*faults.Joined).Unwrap()
	clear(first[:cap(first)])
	checkFault(t, j, x)
	if slices.Contains(second, nil) {
		t.Errorf("Unwrap: %v", second)
	}
	nodes, _ := faults.Chain(j)
	other, _ := faults.Chain(j)
	clear(nodes[:cap(nodes)])
	checkFault(t, j, x)
	if !slices.Equal(other, x.nodes(0)) {
		t.Errorf("Chain: %v", other)
	}
	nodes = append(make([]api.FaNode, 0, 50), x.nodes(0)...)
	built, _ := faults.Build(nodes)
	if full := nodes[:50]; !slices.Equal(full[:4], x.nodes(0)) || full[4] != (api.FaNode{}) {
		t.Errorf("Build has changed its argument to %v", full)
	}
	clear(nodes)
	checkFault(t, built, x)
}

func TestFaultsAreNeverModified(t *testing.T) { // P3.8, R6
	x := exampleJ()
	j := made(t, x)
	y := above(one, joined(x, x))
	both, _ := faults.Join(j, j)
	all, e := faults.Wrap(one, both)
	if e != api.OK {
		t.Fatalf("Wrap: %d", e)
	}
	checkFault(t, all, y)
	checkFault(t, j, x)
	checkFault(t, errors.Unwrap(all), y.below[0])
}

func TestFaultsOfManyThreads(t *testing.T) { // P3.8, R6
	x := exampleJ()
	j := made(t, x)
	var all sync.WaitGroup
	for range 8 {
		all.Go(func() {
			for range 20 {
				checkFault(t, j, x)
			}
		})
	}
	all.Wait()
}

// callAll calls the functions on err, of whose tree a part was overwritten: there is nothing to say about it but that they return.
func callAll(t *testing.T, err error) {
	t.Helper()
	faults.Chain(err)
	faults.Text(err)
	faults.Root(err)
	faults.First(err, api.FaReset)
	faults.Wrap(one, err)
	faults.Join(err, err)
	if faults.Has(err, api.FaReset) {
		t.Errorf("Has of %v", err)
	}
}

func TestLinksThatAreOverwritten(t *testing.T) { // R1, R5
	for i := range 3 {
		inner := made(t, leaf(one)).(*faults.Link)
		wrapped, _ := faults.Wrap(one, inner)
		both, _ := faults.Join(inner, wrapped)
		*inner = []faults.Link{{}, *made(t, line(2)).(*faults.Link), *wrapped.(*faults.Link)}[i]
		checkNoFault(t, "what was overwritten", inner)
		callAll(t, wrapped)
		callAll(t, both)
	}
}

func TestJoinsThatAreOverwritten(t *testing.T) { // R1, R5
	for i := range 3 {
		inner := made(t, joined(leaf(one), leaf(one))).(*faults.Joined)
		wrapped, _ := faults.Wrap(one, inner)
		both, _ := faults.Join(inner, wrapped)
		*inner = []faults.Joined{{}, *made(t, joined(line(2), line(2))).(*faults.Joined), *both.(*faults.Joined)}[i]
		checkNoFault(t, "what was overwritten", inner)
		callAll(t, wrapped)
		callAll(t, both)
	}
}

func TestAllArgumentsAreAccepted(t *testing.T) { // P3.8, R1, R2
	next := numbers(6)
	ops := []string{"", "do", "a", "Do", "on", "\xff", strings.Repeat("x", 17)}
	var errs []error
	for _, x := range []tree{leaf(one), line(12), line(13), forty(), exampleJ()} {
		errs = append(errs, made(t, x))
	}
	errs = append(errs, nil, errors.New("x"), (*faults.Link)(nil), (*faults.Joined)(nil), &faults.Link{}, &faults.Joined{})
	number := func() int {
		return []int{-1 << 63, -2, -1, 0, 1, 2, 3, 15, 16, 17, 40, 1000000000, 1000000001, 1<<63 - 1}[next(14)]
	}
	for range 20000 {
		l := at(ops[next(len(ops))], number(), int64(number()), api.FaKind(number()))
		var some []error
		for range next(10) {
			some = append(some, errs[next(len(errs))])
		}
		var nodes []api.FaNode
		for range next(4) {
			nodes = append(nodes, api.FaNode{Depth: number(), Joined: number(), Link: l})
		}
		wrapped, e := faults.Wrap(l, errs[next(len(errs))])
		checkNone(t, wrapped, e)
		both, e := faults.Join(some...)
		checkNone(t, both, e)
		built, e := faults.Build(nodes)
		checkNone(t, built, e)
	}
}

// checkNone fails if err is not nil together with an error e, or not a fault without one.
func checkNone(t *testing.T, err error, e api.Errno) {
	t.Helper()
	if _, is := faults.Chain(err); (e == api.OK) != (is == api.OK) || e != api.OK && err != nil {
		t.Errorf("%v with %d", err, e)
	}
}

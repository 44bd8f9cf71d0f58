package faults_test

import (
	"errors"
	"slices"
	"testing"

	"spillway/api"
	"spillway/faults"
)

func at(op string, backend int, conn int64, kind api.FaKind) api.FaLink {
	return api.FaLink{Kind: kind, Op: op, Backend: backend, Conn: conn}
}

// one is a link without numbers.
var one = at("do", -1, 0, api.FaDial)

// exampleR, exampleA and exampleJ are R, A and J of the examples.
func exampleR() tree { return leaf(at("read", -1, 7, api.FaReset)) }
func exampleA() tree { return above(at("attempt", 1, 0, api.FaTruncated), exampleR()) }
func exampleJ() tree { return joined(exampleA(), leaf(at("dial", 2, 0, api.FaRefused))) }

// line returns a tree of n links, each the cause of the one before it.
func line(n int) tree {
	x := leaf(one)
	for range n - 1 {
		x = above(one, x)
	}
	return x
}

// times returns n times x.
func times(n int, x tree) []tree { return slices.Repeat([]tree{x}, n) }

// forty returns a tree of 40 nodes: a join has 4 joins of 8, and 3 links.
func forty() tree {
	return joined(append(times(4, joined(times(8, leaf(one))...)), times(3, leaf(one))...)...)
}

func TestExamples(t *testing.T) { // P3.1 to P3.6
	j := made(t, exampleJ())
	if s, e := faults.Text(j); s != "(attempt on 1: truncated; read over 7: reset & dial on 2: refused)" || e != api.OK {
		t.Errorf("Text: %s, %d", s, e)
	}
	want := []api.FaNode{
		{Depth: 0, Joined: 2},
		{Depth: 1, Link: at("attempt", 1, 0, api.FaTruncated)},
		{Depth: 2, Link: at("read", -1, 7, api.FaReset)},
		{Depth: 1, Link: at("dial", 2, 0, api.FaRefused)},
	}
	if l, e := faults.Chain(j); !slices.Equal(l, want) || e != api.OK {
		t.Errorf("Chain: %v, %d", l, e)
	}
	if !faults.Has(j, api.FaReset) || faults.Has(j, api.FaDeadline) {
		t.Errorf("Has")
	}
	if l, e := faults.Root(j); l != want[2].Link || e != api.OK {
		t.Errorf("Root: %v, %d", l, e)
	}
	if l, e := faults.First(j, api.FaRefused); l != want[3].Link || e != api.OK {
		t.Errorf("First: %v, %d", l, e)
	}
	checkWrap(t, at("Do", -1, 0, 1), nil, api.ErrForm)
	checkParse(t, "do: exhausted; ", api.ErrForm)
	checkParse(t, "do on 16: dial", api.ErrRange)
	checkParse(t, "(do: dial)", api.ErrForm)
	checkFault(t, j, exampleJ())
	checkBoth(t, exampleJ())
}

func TestNamesOfKinds(t *testing.T) { // P3.1, P3.6
	for kind := api.FaKind(1); kind <= 16; kind++ {
		s, e := faults.Sentinel(kind)
		if e != api.OK || s.Error() != names[kind] {
			t.Errorf("Sentinel(%d): %v, %d", kind, s, e)
		}
		checkBoth(t, leaf(at("do", -1, 0, kind)))
	}
}

func TestSentinels(t *testing.T) { // P3.1
	for _, kind := range []api.FaKind{-1 << 63, -256, -1, 0, 17, 18, 256 + 1, 1<<32 + 1, 1<<63 - 1} {
		if s, e := faults.Sentinel(kind); s != nil || e != api.ErrRange {
			t.Errorf("Sentinel(%d): %v, %d", kind, s, e)
		}
		if faults.Has(made(t, leaf(at("do", -1, 0, 1))), kind) {
			t.Errorf("Has of kind %d", kind)
		}
	}
	for a := api.FaKind(1); a <= 16; a++ {
		for b := api.FaKind(1); b <= 16; b++ {
			s, _ := faults.Sentinel(a)
			u, _ := faults.Sentinel(b)
			if (s == u) != (a == b) || errors.Is(s, u) != (a == b) || faults.Has(s, b) != (a == b) || faults.Has(outer{s}, b) != (a == b) {
				t.Errorf("sentinels of %d and %d", a, b)
			}
		}
		s, _ := faults.Sentinel(a)
		checkNoFault(t, "sentinel", s)
	}
}

// checkNoFault fails if err, which is not nil, is taken for a fault.
func checkNoFault(t *testing.T, what string, err error) {
	t.Helper()
	if l, e := faults.Chain(err); l != nil || e != api.ErrArg {
		t.Errorf("Chain of %s: %v, %d", what, l, e)
	}
	if l, e := faults.First(err, api.FaReset); l != (api.FaLink{}) || e != api.ErrArg {
		t.Errorf("First of %s: %v, %d", what, l, e)
	}
	if l, e := faults.First(err, 0); l != (api.FaLink{}) || e != api.ErrArg {
		t.Errorf("First of %s: %v, %d", what, l, e)
	}
	if l, e := faults.Root(err); l != (api.FaLink{}) || e != api.ErrArg {
		t.Errorf("Root of %s: %v, %d", what, l, e)
	}
	if s, e := faults.Text(err); s != "" || e != api.ErrArg {
		t.Errorf("Text of %s: %s, %d", what, s, e)
	}
	checkWrap(t, at("Do", 16, -1, 0), err, api.ErrArg)
	checkWrap(t, one, err, api.ErrArg)
	checkJoin(t, api.ErrArg, err)
	fault := made(t, leaf(one))
	checkJoin(t, api.ErrArg, fault, err)
	checkJoin(t, api.ErrArg, fault, fault, fault, fault, fault, fault, fault, fault, fault, err)
	deep := made(t, line(13))
	checkJoin(t, api.ErrArg, deep, err, deep)
}

// checkWrap fails if Wrap does not return the error e.
func checkWrap(t *testing.T, l api.FaLink, cause error, e api.Errno) {
	t.Helper()
	if err, got := faults.Wrap(l, cause); err != nil || got != e {
		t.Errorf("Wrap of %v: %v, %d, want %d", l, err, got, e)
	}
}

// checkJoin fails if Join does not return the error e.
func checkJoin(t *testing.T, e api.Errno, errs ...error) {
	t.Helper()
	if err, got := faults.Join(errs...); err != nil || got != e {
		t.Errorf("Join of %d: %v, %d, want %d", len(errs), err, got, e)
	}
}

func TestErrorsThatAreNoFaults(t *testing.T) { // P3.1 to P3.6, R5
	link := *made(t, exampleA()).(*faults.Link)
	join := *made(t, exampleJ()).(*faults.Joined)
	for what, err := range map[string]error{
		"another error": errors.New("x"), "an error around one": outer{made(t, exampleJ())}, "errors around one": several{made(t, exampleJ())},
		"a join of package errors": errors.Join(made(t, exampleJ())), "a nil link": (*faults.Link)(nil), "a nil join": (*faults.Joined)(nil),
		"a zero link": &faults.Link{}, "a zero join": &faults.Joined{}, "a copy of a link": &link, "a copy of a join": &join, "an errno": errno(3),
	} {
		checkNoFault(t, what, err)
	}
	for _, l := range []*faults.Link{nil, {}, &link} {
		for kind := api.FaKind(1); kind <= 16; kind++ {
			if s, _ := faults.Sentinel(kind); l.Is(s) || errors.Is(l, s) || faults.Has(l, kind) {
				t.Errorf("kind %d of no link", kind)
			}
		}
		if l.Error() != "" || l.Unwrap() != nil || l.Is(nil) || l.Is(l) || l.Fault() != (api.FaLink{}) {
			t.Errorf("methods of no link: %q, %v, %v", l.Error(), l.Unwrap(), l.Fault())
		}
	}
	for _, j := range []*faults.Joined{nil, {}, &join} {
		if j.Error() != "" || len(j.Unwrap()) > 0 || faults.Has(j, api.FaReset) {
			t.Errorf("methods of no join: %q, %v", j.Error(), j.Unwrap())
		}
	}
}

// errno is an error of another package that is a number, as kinds are.
type errno int

func (e errno) Error() string { return names[e] }

func TestIsOfOtherErrors(t *testing.T) { // P3.1
	l := made(t, exampleA()).(*faults.Link)
	other := made(t, exampleA())
	for i, target := range []error{nil, l, other, errno(api.FaTruncated), errors.New("truncated"), outer{l}, several{l}, several(nil), (*faults.Link)(nil)} {
		if l.Is(target) {
			t.Errorf("%d: Is", i)
		}
	}
	s, _ := faults.Sentinel(api.FaTruncated)
	if l.Is(outer{s}) || l.Is(several{s}) || !l.Is(s) {
		t.Errorf("Is of sentinels")
	}
	// The kinds of causes are found by errors.Is, and not by Is.
	if s, _ = faults.Sentinel(api.FaReset); l.Is(s) || !errors.Is(l, s) {
		t.Errorf("Is of the kind of the cause")
	}
	if !errors.Is(l, l) || errors.Is(l, other) {
		t.Errorf("errors.Is of the fault itself")
	}
}

func TestWrap(t *testing.T) { // P3.2
	for _, l := range []api.FaLink{
		at("do", -1, 0, 1), at("do", 15, 1000000000, 16), at("a", 0, 1, 8), at("abcdefghijklmnop", -1, 0, 1),
	} {
		checkFault(t, made(t, leaf(l)), leaf(l))
	}
	for _, op := range []string{"", "Do", "1", "-", "do it", "do:", "do\n", "dö", "abcdefghijklmnopq", "(a"} {
		checkWrap(t, at(op, -1, 0, 1), nil, api.ErrForm)
		checkWrap(t, at(op, 16, -1, 17), made(t, line(13)), api.ErrForm)
	}
	for _, l := range []api.FaLink{
		at("do", -1, 0, 0), at("do", -1, 0, 17), at("do", -1, 0, -1), at("do", -1, 0, 1<<40),
		at("do", -2, 0, 1), at("do", 16, 0, 1), at("do", -1<<63, 0, 1), at("do", 1<<63-1, 0, 1), at("do", 1<<32, 0, 1),
		at("do", -1, -1, 1), at("do", -1, 1000000001, 1), at("do", -1, -1<<63, 1), at("do", -1, 1<<63-1, 1), at("do", -1, 1<<32, 1),
	} {
		checkWrap(t, l, nil, api.ErrRange)
		checkWrap(t, l, made(t, line(13)), api.ErrRange)
	}
}

func TestWrapOfTooMuch(t *testing.T) { // P3.2
	deepest := line(13)
	checkFault(t, made(t, deepest), deepest)
	checkWrap(t, one, made(t, deepest), api.ErrLong)
	// The second fault is the deepest.
	bent := joined(leaf(one), line(12))
	checkFault(t, made(t, bent), bent)
	checkWrap(t, one, made(t, bent), api.ErrLong)
	checkFault(t, made(t, forty()), forty())
	checkWrap(t, one, made(t, forty()), api.ErrLong)
	most := above(one, joined(forty().below[:6]...))
	checkFault(t, made(t, most), most)
}

func TestWrapKeepsTheCause(t *testing.T) { // P3.1, P3.2
	for _, cause := range []error{made(t, exampleA()), made(t, exampleJ())} {
		err, e := faults.Wrap(one, cause)
		if e != api.OK || errors.Unwrap(err) != cause || !errors.Is(err, cause) {
			t.Errorf("cause %v of %v", errors.Unwrap(err), err)
		}
	}
	if err := made(t, leaf(one)); errors.Unwrap(err) != nil || err.(*faults.Link).Unwrap() != nil {
		t.Errorf("a cause of none: %v", errors.Unwrap(err))
	}
}

func TestJoin(t *testing.T) { // P3.1, P3.3
	checkJoin(t, api.ErrNone)
	checkJoin(t, api.ErrNone, []error{}...)
	var errs []error
	for n := range 8 {
		errs = append(errs, made(t, leaf(at("do", n, 0, 1))))
		err, e := faults.Join(errs...)
		if n == 0 {
			if err != errs[0] || e != api.OK {
				t.Errorf("Join of one: %v, %d", err, e)
			}
			continue
		}
		if got := err.(*faults.Joined).Unwrap(); !slices.Equal(got, errs) || e != api.OK {
			t.Errorf("Join of %d: %v, %d", n+1, got, e)
		}
	}
	j := made(t, exampleJ())
	if err, e := faults.Join(j); err != j || e != api.OK {
		t.Errorf("Join of a join: %v, %d", err, e)
	}
	checkJoin(t, api.ErrArg, nil)
	checkJoin(t, api.ErrArg, j, nil)
	checkJoin(t, api.ErrArg, nil, j)
	checkJoin(t, api.ErrArg, append(errs, errs[0], nil)...)
	checkJoin(t, api.ErrLong, append(errs, errs[0])...)
}

func TestJoinOfTooMuch(t *testing.T) { // P3.3
	deepest := made(t, line(13))
	if err, e := faults.Join(deepest); err != deepest || e != api.OK {
		t.Errorf("Join of the deepest: %v, %d", err, e)
	}
	checkJoin(t, api.ErrLong, deepest, deepest)
	checkJoin(t, api.ErrLong, made(t, leaf(one)), deepest)
	low := joined(line(12), line(12))
	checkFault(t, made(t, low), low)
	most := made(t, forty())
	if err, e := faults.Join(most); err != most || e != api.OK {
		t.Errorf("Join of 40 nodes: %v, %d", err, e)
	}
	checkJoin(t, api.ErrLong, most, made(t, leaf(one)))
	eight, few := made(t, joined(times(8, leaf(one))...)), made(t, leaf(one))
	checkJoin(t, api.ErrLong, eight, eight, eight, eight, few, few, few, few)
}

func TestFaultsOfNothing(t *testing.T) { // P3.4 to P3.6
	if l, e := faults.Chain(nil); l != nil || e != api.ErrNil {
		t.Errorf("Chain: %v, %d", l, e)
	}
	if l, e := faults.First(nil, 1); l != (api.FaLink{}) || e != api.ErrNil {
		t.Errorf("First: %v, %d", l, e)
	}
	if l, e := faults.First(nil, 99); l != (api.FaLink{}) || e != api.ErrNil {
		t.Errorf("First: %v, %d", l, e)
	}
	if l, e := faults.Root(nil); l != (api.FaLink{}) || e != api.ErrNil {
		t.Errorf("Root: %v, %d", l, e)
	}
	if s, e := faults.Text(nil); s != "" || e != api.ErrNil {
		t.Errorf("Text: %s, %d", s, e)
	}
	for kind := api.FaKind(-1); kind <= 17; kind++ {
		if faults.Has(nil, kind) {
			t.Errorf("Has of nil, %d", kind)
		}
	}
}

// wild is an error whose methods panic.
type wild struct{ is, unwrap bool }

func (w wild) Error() string { panic("Error") }
func (w wild) Is(error) bool {
	if w.is {
		panic("Is")
	}
	return false
}
func (w wild) Unwrap() error {
	if w.unwrap {
		panic(errors.New("Unwrap"))
	}
	return nil
}

func TestHasOfOtherErrors(t *testing.T) { // P3.5, P3.7, R1
	for _, err := range []error{wild{}, wild{is: true}, wild{unwrap: true}, several{wild{unwrap: true}}, several{nil, nil}, outer{nil}, (*outer)(nil), errors.New("dial")} {
		for kind := api.FaKind(1); kind <= 16; kind++ {
			if faults.Has(err, kind) {
				t.Errorf("Has of no fault, %d", kind)
			}
		}
	}
	dial := made(t, leaf(one))
	for i, err := range []error{several{errors.New("x"), dial}, several{nil, outer{dial}}, errors.Join(errors.New("x"), dial), several{wild{}, dial}, several{dial, wild{is: true}}, all{}} {
		if !faults.Has(err, api.FaDial) {
			t.Errorf("%d: Has of a fault within", i)
		}
	}
}

// all is an error that says that it is any other.
type all struct{}

func (all) Error() string { return "all" }
func (all) Is(error) bool { return true }

func TestKindsOfCauses(t *testing.T) { // P3.8
	next := numbers(4)
	for range 300 {
		x := anyTree(next, 12, 6, 3).labelled(anyLink(next))
		y := anyTree(next, 12, 6, 3).labelled(anyLink(next))
		link := anyLink(next)()
		a, b := made(t, x), made(t, y)
		wrapped := made(t, above(link, x))
		both := made(t, joined(x, y))
		for kind := api.FaKind(1); kind <= 16; kind++ {
			if faults.Has(wrapped, kind) != (faults.Has(a, kind) || link.Kind == kind) {
				t.Errorf("kind %d of %v", kind, wrapped)
			}
			if faults.Has(both, kind) != (faults.Has(a, kind) || faults.Has(b, kind)) {
				t.Errorf("kind %d of %v", kind, both)
			}
		}
	}
}

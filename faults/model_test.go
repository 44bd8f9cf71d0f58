package faults_test

import (
	"errors"
	"slices"
	"strconv"
	"strings"
	"testing"

	"spillway/api"
	"spillway/faults"
)

// names are the names of the kinds, from 1 on.
var names = strings.Fields("- shutdown no-backend queue-full deadline canceled dial refused reset truncated malformed too-large surplus open down closed exhausted")

// tree is what a fault should be: a link with at most one tree below, or a join.
type tree struct {
	joined bool
	link   api.FaLink
	below  []tree
}

func leaf(l api.FaLink) tree              { return tree{link: l} }
func above(l api.FaLink, cause tree) tree { return tree{link: l, below: []tree{cause}} }
func joined(l ...tree) tree               { return tree{joined: true, below: l} }

// nodes returns the chain of x, whose root has this depth.
func (x tree) nodes(depth int) []api.FaNode {
	n := api.FaNode{Depth: depth, Link: x.link}
	if x.joined {
		n.Joined = len(x.below)
	}
	l := []api.FaNode{n}
	for _, y := range x.below {
		l = append(l, y.nodes(depth+1)...)
	}
	return l
}

// links returns the links of x in preorder.
func (x tree) links() []api.FaLink {
	var l []api.FaLink
	for _, n := range x.nodes(0) {
		if n.Joined == 0 {
			l = append(l, n.Link)
		}
	}
	return l
}

// root returns the first cause of all.
func (x tree) root() api.FaLink {
	for len(x.below) > 0 {
		x = x.below[0]
	}
	return x.link
}

// text returns the text of x.
func (x tree) text() string {
	var l []string
	for _, y := range x.below {
		l = append(l, y.text())
	}
	if x.joined {
		return "(" + strings.Join(l, " & ") + ")"
	}
	s := x.link.Op
	if x.link.Backend >= 0 {
		s += " on " + strconv.Itoa(x.link.Backend)
	}
	if x.link.Conn > 0 {
		s += " over " + strconv.FormatInt(x.link.Conn, 10)
	}
	return strings.Join(append([]string{s + ": " + names[x.link.Kind]}, l...), "; ")
}

// fault makes the fault from the leaves on.
func (x tree) fault() (error, api.Errno) {
	var below []error
	for _, y := range x.below {
		err, e := y.fault()
		if e != api.OK {
			return nil, e
		}
		below = append(below, err)
	}
	if x.joined {
		return faults.Join(below...)
	}
	if len(below) == 0 {
		return faults.Wrap(x.link, nil)
	}
	return faults.Wrap(x.link, below[0])
}

// made returns the fault of x.
func made(t *testing.T, x tree) error {
	t.Helper()
	err, e := x.fault()
	if err == nil || e != api.OK {
		t.Fatalf("%s is not made: %v, %d", x.text(), err, e)
	}
	return err
}

// shapes returns all trees with n nodes and links that are zero.
func shapes(n int) []tree {
	if n == 1 {
		return []tree{{}}
	}
	var l []tree
	for _, cause := range shapes(n - 1) {
		l = append(l, above(api.FaLink{}, cause))
	}
	for size := 2; size <= min(n-1, 8); size++ {
		for _, below := range forests(n-1, size) {
			l = append(l, joined(below...))
		}
	}
	return l
}

// forests returns all lists of some trees that have n nodes together.
func forests(n, size int) [][]tree {
	if size == 0 && n == 0 {
		return [][]tree{nil}
	}
	var l [][]tree
	for first := 1; size > 0 && first <= n-size+1; first++ {
		rest := forests(n-first, size-1)
		for _, x := range shapes(first) {
			for _, below := range rest {
				l = append(l, append([]tree{x}, below...))
			}
		}
	}
	return l
}

// labelled returns x with links in preorder.
func (x tree) labelled(next func() api.FaLink) tree {
	if !x.joined {
		x.link = next()
	}
	below := make([]tree, len(x.below))
	for i, y := range x.below {
		below[i] = y.labelled(next)
	}
	x.below = below
	return x
}

// numbers returns numbers below n that look like random ones.
func numbers(seed uint64) func(n int) int {
	return func(n int) int {
		seed = seed*6364136223846793005 + 1442695040888963407
		return int(seed >> 33 % uint64(n))
	}
}

// anyLink returns links that are valid, limits among them.
func anyLink(next func(n int) int) func() api.FaLink {
	ops := []string{"do", "a", "on", "over", "dial", "a-1", "x0-", "abcdefghijklmn-9"}
	return func() api.FaLink {
		l := api.FaLink{Kind: api.FaKind(next(16) + 1), Op: ops[next(len(ops))], Backend: next(17) - 1}
		switch next(4) {
		case 0:
			l.Conn = int64(next(1000000001))
		case 1:
			l.Conn = 1000000000
		case 2:
			l.Conn = 1
		}
		return l
	}
}

// outer and several are errors of another package.
type outer struct{ err error }

func (o outer) Error() string { return "outer" }
func (o outer) Unwrap() error { return o.err }

type several []error

func (s several) Error() string   { return "several" }
func (s several) Unwrap() []error { return s }

// checkFault fails if err is not the fault of x.
func checkFault(t *testing.T, err error, x tree) {
	t.Helper()
	if l, e := faults.Chain(err); !slices.Equal(l, x.nodes(0)) || e != api.OK {
		t.Errorf("Chain of %s: %v, %d", x.text(), l, e)
	}
	if s, e := faults.Text(err); s != x.text() || e != api.OK || err.Error() != s {
		t.Errorf("Text of %s: %s, %d; Error: %s", x.text(), s, e, err.Error())
	}
	if l, e := faults.Root(err); l != x.root() || e != api.OK {
		t.Errorf("Root of %s: %v, %d", x.text(), l, e)
	}
	for kind := api.FaKind(-1); kind <= 18; kind++ {
		checkKind(t, err, x, kind)
	}
	var found *faults.Link
	for _, y := range []error{err, outer{err}, several{errors.New("x"), outer{err}, made(t, leaf(api.FaLink{Kind: 1, Op: "last"}))}} {
		if !errors.As(y, &found) || found.Fault() != x.links()[0] {
			t.Errorf("errors.As of %s: %v", x.text(), found)
		}
	}
	checkType(t, err, x)
}

// checkKind fails if it is not known whether err, the fault of x, has a kind.
func checkKind(t *testing.T, err error, x tree, kind api.FaKind) {
	t.Helper()
	links := x.links()
	at := slices.IndexFunc(links, func(l api.FaLink) bool { return l.Kind == kind })
	for _, y := range []error{err, outer{err}, several{errors.New("x"), outer{err}}} {
		if has := faults.Has(y, kind); has != (at >= 0) {
			t.Errorf("Has of %s, %d: %t", x.text(), kind, has)
		}
		if s, e := faults.Sentinel(kind); e == api.OK && errors.Is(y, s) != (at >= 0) {
			t.Errorf("errors.Is of %s, %d: %t", x.text(), kind, at < 0)
		}
	}
	l, e := faults.First(err, kind)
	if at >= 0 && (l != links[at] || e != api.OK) || at < 0 && (l != (api.FaLink{}) || e != api.ErrNone) {
		t.Errorf("First of %s, %d: %v, %d", x.text(), kind, l, e)
	}
}

// checkType fails if err and all below are not of the types that they should have.
func checkType(t *testing.T, err error, x tree) {
	t.Helper()
	var below []error
	switch y := err.(type) {
	case *faults.Link:
		if x.joined || y.Fault() != x.link {
			t.Errorf("link of %s: %v", x.text(), y.Fault())
		}
		if y.Unwrap() != nil {
			below = append(below, y.Unwrap())
		}
		for kind := api.FaKind(1); kind <= 16; kind++ {
			if s, e := faults.Sentinel(kind); e != api.OK || y.Is(s) != (kind == x.link.Kind) {
				t.Errorf("Is of %s, %d", x.text(), kind)
			}
		}
	case *faults.Joined:
		if !x.joined {
			t.Errorf("join for %s", x.text())
		}
		below = y.Unwrap()
	default:
		t.Errorf("type of %s", x.text())
	}
	if len(below) != len(x.below) {
		t.Fatalf("below %s: %d faults", x.text(), len(below))
	}
	for i, y := range x.below {
		checkType(t, below[i], y)
		if s, e := faults.Text(below[i]); s != y.text() || e != api.OK {
			t.Errorf("Text of %s: %s, %d", y.text(), s, e)
		}
	}
}

// checkBoth fails if the chain and the text of x do not make its fault.
func checkBoth(t *testing.T, x tree) {
	t.Helper()
	err, e := faults.Build(x.nodes(0))
	if e != api.OK {
		t.Fatalf("Build of %s: %d", x.text(), e)
	}
	checkFault(t, err, x)
	err, e = faults.Parse(x.text())
	if e != api.OK {
		t.Fatalf("Parse of %s: %d", x.text(), e)
	}
	checkFault(t, err, x)
}

func TestAllSmallFaults(t *testing.T) { // P3.1 to P3.8
	next := anyLink(numbers(1))
	for n := 1; n <= 7; n++ {
		for _, x := range shapes(n) {
			x = x.labelled(next)
			checkFault(t, made(t, x), x)
			checkBoth(t, x)
		}
	}
}

// anyTree returns a tree with at most n nodes and at most this depth, whose joins have at most wide faults.
func anyTree(next func(n int) int, n, depth, wide int) tree {
	if n < 2 || depth == 0 || next(12) == 0 {
		return tree{}
	}
	if n < 3 || next(3) > 0 {
		return above(api.FaLink{}, anyTree(next, n-1, depth-1, wide))
	}
	size := 2 + next(min(wide, n-1)-1)
	var below []tree
	for range size {
		below = append(below, anyTree(next, (n-1)/size, depth-1, wide))
	}
	return joined(below...)
}

func TestManyFaults(t *testing.T) { // P3.2 to P3.8
	next := numbers(2)
	for range 500 {
		x := anyTree(next, 40, 12, 8).labelled(anyLink(next))
		checkFault(t, made(t, x), x)
		checkBoth(t, x)
	}
}

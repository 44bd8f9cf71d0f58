package faults_test

import (
	"slices"
	"strconv"
	"testing"

	"spillway/api"
	"spillway/faults"
)

// checkBuild fails if Build does not return the error e.
func checkBuild(t *testing.T, l []api.FaNode, e api.Errno) {
	t.Helper()
	before := slices.Clone(l)
	if err, got := faults.Build(l); got != e || (err == nil) != (e != api.OK) {
		t.Errorf("Build of %v: %v, %d, want %d", l, err, got, e)
	}
	if !slices.Equal(l, before) {
		t.Errorf("Build has changed %v to %v", before, l)
	}
}

func node(depth int, l api.FaLink) api.FaNode { return api.FaNode{Depth: depth, Link: l} }
func join(depth, size int) api.FaNode         { return api.FaNode{Depth: depth, Joined: size} }

// key returns a string for a list of nodes whose links are one or zero.
func key(l []api.FaNode) string {
	s := ""
	for _, n := range l {
		s += strconv.Itoa(n.Depth) + "." + strconv.Itoa(n.Joined) + n.Link.Op + " "
	}
	return s
}

// checkAllLists fails if Build does not accept exactly the chains of trees among the lists of at most n nodes.
func checkAllLists(t *testing.T, alphabet []api.FaNode, n int) {
	t.Helper()
	chains := map[string]bool{}
	for size := 1; size <= n; size++ {
		for _, x := range shapes(size) {
			chains[key(x.labelled(func() api.FaLink { return one }).nodes(0))] = true
		}
	}
	accepted := 0
	var try func(l []api.FaNode)
	try = func(l []api.FaNode) {
		err, e := faults.Build(l)
		if e == api.OK {
			accepted++
			if got, _ := faults.Chain(err); !slices.Equal(got, l) {
				t.Errorf("Chain of Build of %v: %v", l, got)
			}
		}
		if chains[key(l)] != (e == api.OK) || e != api.OK && (err != nil || e != api.ErrForm) {
			t.Errorf("Build of %v: %v, %d", l, err, e)
		}
		if len(l) < n {
			for _, x := range alphabet {
				try(append(slices.Clip(l), x))
			}
		}
	}
	try(nil)
	if accepted != len(chains) {
		t.Errorf("%d lists are chains, want %d", accepted, len(chains))
	}
}

func TestBuildOfAllShortLists(t *testing.T) { // P3.4, P3.8
	var few, many []api.FaNode
	for depth := range 5 {
		few = append(few, node(depth, one), join(depth, 2), join(depth, 3))
	}
	few = append(few, join(0, 4))
	many = append(many, few...)
	for depth := -1; depth < 3; depth++ {
		wrong := one
		wrong.Op = "Do"
		many = append(many, join(depth, 1), join(depth, -1), node(depth, wrong))
		many = append(many, api.FaNode{Depth: depth, Joined: 2, Link: one})
	}
	many = append(many, node(-1, one), join(-1, 2))
	checkAllLists(t, few, 5)
	checkAllLists(t, many, 3)
}

func TestBuildOfWrongForms(t *testing.T) { // P3.4
	nodes := exampleJ().nodes(0)
	checkBuild(t, nodes, api.OK)
	for i := range nodes {
		for _, change := range []func(n *api.FaNode){
			func(n *api.FaNode) { n.Depth++ },
			func(n *api.FaNode) { n.Depth-- },
			func(n *api.FaNode) { n.Depth = -1 << 63 },
			func(n *api.FaNode) { n.Joined++ },
			func(n *api.FaNode) { n.Joined-- },
			func(n *api.FaNode) { n.Joined = 1<<63 - 1 },
			func(n *api.FaNode) { n.Joined = -1 << 63 },
			func(n *api.FaNode) { n.Link.Op += " " },
			func(n *api.FaNode) { n.Link.Op = "X" },
		} {
			l := slices.Clone(nodes)
			change(&l[i])
			checkBuild(t, l, api.ErrForm)
		}
		checkBuild(t, nodes[:i], api.ErrForm)
		checkBuild(t, nodes[i+1:], api.ErrForm)
	}
	checkBuild(t, []api.FaNode{}, api.ErrForm)
	checkBuild(t, []api.FaNode{{}}, api.ErrForm)
}

func TestBuildOfJoins(t *testing.T) { // P3.4
	for size := 2; size <= 8; size++ {
		checkBuild(t, joined(times(size, leaf(one))...).nodes(0), api.OK)
	}
	for size := 9; size <= 39; size++ {
		checkBuild(t, joined(times(size, leaf(one))...).nodes(0), api.ErrForm)
	}
	checkBuild(t, joined(times(40, leaf(one))...).nodes(0), api.ErrLong)
	// A join has no link, whatever of it is not zero.
	for _, l := range []api.FaLink{{Op: "do"}, {Kind: 1}, {Kind: 99}, {Backend: -1}, {Backend: 99}, {Conn: 1}, {Conn: -1}} {
		nodes := joined(times(2, leaf(one))...).nodes(0)
		nodes[0].Link = l
		checkBuild(t, nodes, api.ErrForm)
	}
}

// wrongLinks returns links whose numbers are out of range.
func wrongLinks() []api.FaLink {
	return []api.FaLink{
		at("do", -1, 0, 0), at("do", -1, 0, 17), at("do", -1, 0, -1), at("do", -2, 0, 1), at("do", 16, 0, 1), at("do", 1<<32, 0, 1),
		at("do", -1, -1, 1), at("do", -1, 1000000001, 1), at("do", -1, 1<<63-1, 1), at("do", -1, -1<<63, 1), at("do", -1<<63, 0, 1<<62),
	}
}

func TestBuildOfNumbersOutOfRange(t *testing.T) { // P3.4
	for _, l := range wrongLinks() {
		checkBuild(t, leaf(l).nodes(0), api.ErrRange)
		checkBuild(t, above(one, leaf(l)).nodes(0), api.ErrRange)
		checkBuild(t, above(l, leaf(one)).nodes(0), api.ErrRange)
		checkBuild(t, joined(leaf(one), leaf(l)).nodes(0), api.ErrRange)
		checkBuild(t, joined(above(l, joined(leaf(one), leaf(one))), leaf(l)).nodes(0), api.ErrRange)
		// A form that is wrong, before or after, is said first.
		checkBuild(t, []api.FaNode{node(0, l), node(0, one)}, api.ErrForm)
		checkBuild(t, []api.FaNode{node(0, l), node(1, at("Do", -1, 0, 1))}, api.ErrForm)
		checkBuild(t, []api.FaNode{node(1, l)}, api.ErrForm)
		// A limit is said before both.
		checkBuild(t, []api.FaNode{node(0, l), node(13, one)}, api.ErrLong)
		checkBuild(t, slices.Repeat([]api.FaNode{node(0, l)}, 41), api.ErrLong)
		checkBuild(t, slices.Repeat([]api.FaNode{node(0, l)}, 40), api.ErrForm)
	}
	for _, l := range []api.FaLink{at("do", -1, 0, 1), at("do", 15, 1000000000, 16), at("do", 0, 1, 1)} {
		checkBuild(t, leaf(l).nodes(0), api.OK)
	}
}

func TestBuildOfTooMuch(t *testing.T) { // P3.4
	checkBuild(t, line(13).nodes(0), api.OK)
	checkBuild(t, line(14).nodes(0), api.ErrLong)
	checkBuild(t, forty().nodes(0), api.OK)
	checkBuild(t, above(one, forty()).nodes(0), api.ErrLong)
	checkBuild(t, []api.FaNode{node(13, one)}, api.ErrLong)
	checkBuild(t, []api.FaNode{node(12, one)}, api.ErrForm)
	checkBuild(t, []api.FaNode{node(1<<63-1, one)}, api.ErrLong)
	checkBuild(t, append(exampleJ().nodes(0), join(13, -5)), api.ErrLong)
	checkBuild(t, make([]api.FaNode, 40), api.ErrForm)
	checkBuild(t, make([]api.FaNode, 41), api.ErrLong)
	checkBuild(t, make([]api.FaNode, 100000), api.ErrLong)
}

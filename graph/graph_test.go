package graph_test

import (
	"math"
	"slices"
	"testing"

	"redwax/api"
	"redwax/graph"
)

// The chapter's examples.
func TestExamples(t *testing.T) {
	p, q, r := partP(), partQ(), partR()
	wants(t, told(built(t, p).Lines()), "a b", "p")
	for _, order := range [][]part{{p, q, r}, {p, r, q}} {
		g := built(t, order...)
		wants(t, told(g.Lines()), "(a) x y b", "p with q and r")
		wants(t, g.Before(at(2, 0), at(3, 0)), false, "x before y")
		wants(t, g.Before(at(3, 0), at(2, 0)), false, "y before x")
		is(t, g, model{p, q, r})
	}
	g := graph.New()
	wants(t, g.Add(q), api.ErrDepend, "q alone")
	is(t, g, nil)
	g = built(t, p, q)
	wants(t, g.Remove(patch(1), 0), api.ErrDepend, "p q, Remove p")
	is(t, g, model{p, q})
	g = built(t, p)
	wants(t, g.Add(brings(2, at(1, 1), at(1, 0), "x")), api.ErrForm, "p, then Up (1, 1), Down (1, 0)")
	is(t, g, model{p})
}

// P15.1: a new graph has no parts; graphs of two calls are apart.
func TestNew(t *testing.T) {
	g, other := graph.New(), graph.New()
	is(t, g, nil)
	wants(t, g.Has(root) && g.Has(end), true, "Has of Root and End")
	wants(t, g.Before(root, end), true, "Root before End")
	wants(t, g.Before(end, root), false, "End before Root")
	wants(t, g.Remove(api.Hash{}, 0), api.ErrNone, "Remove from a new graph")
	wants(t, g.Add(partP()), api.OK, "Add")
	is(t, g, model{partP()})
	is(t, other, nil)
}

// P15.1, P15.2, P15.4: nil, and what neither New nor Copy returned; ErrNil comes ahead of all other
// errors.
func TestNoGraph(t *testing.T) {
	empty, made := graph.New(), built(t, partP())
	valueOfEmpty, value := *empty, *made
	for i, g := range []*graph.Graph{nil, {}, new(graph.Graph), &valueOfEmpty, &value} {
		for _, p := range []part{{}, partP(), partQ(), {First: -1}, {Up: end, Down: root}, brings(1, at(9, 9), end, "x", root, root)} {
			wants(t, g.Add(p), api.ErrNil, "graph %d: Add of %v", i, p)
			wants(t, g.Remove(p.Patch, p.At), api.ErrNil, "graph %d: Remove of %v", i, p)
		}
		wants(t, len(g.Lines()), 0, "graph %d: Lines", i)
		wants(t, g.Copy(), nil, "graph %d: Copy", i)
		for _, a := range []api.Vertex{root, end, at(1, 0), at(1, 1)} {
			wants(t, g.Has(a), false, "graph %d: Has of %v", i, a)
			for _, b := range []api.Vertex{root, end, at(1, 0), at(1, 1)} {
				wants(t, g.Before(a, b), false, "graph %d: Before(%v, %v)", i, a, b)
			}
		}
	}
	is(t, empty, nil)
	is(t, made, model{partP()})
}

// P15.4: by Patch, its first byte before all others, then by N.
func TestOrder(t *testing.T) {
	rising := []api.Vertex{
		{N: math.MinInt}, end, root, {}, {N: 1}, {N: math.MaxInt},
		{Patch: api.Hash{31: 1}, N: math.MinInt}, {Patch: api.Hash{31: 1}, N: -2}, {Patch: api.Hash{31: 1}, N: 7},
		{Patch: api.Hash{31: 2}}, {Patch: api.Hash{31: 0x7f}}, {Patch: api.Hash{31: 0x80}}, {Patch: api.Hash{31: 0xff}, N: -1},
		{Patch: api.Hash{30: 1}, N: -5}, {Patch: api.Hash{8: 1}}, {Patch: api.Hash{7: 1, 8: 0}}, {Patch: api.Hash{7: 1, 8: 1}},
		{Patch: api.Hash{0: 1, 31: 9}, N: 3}, {Patch: api.Hash{0: 1, 1: 1}, N: 2}, {Patch: api.Hash{0: 0xff}, N: 1},
	}
	for i, a := range rising {
		for j, b := range rising {
			want := 0
			switch {
			case i < j:
				want = -1
			case i > j:
				want = 1
			}
			wants(t, graph.Order(a, b), want, "Order(%v, %v)", a, b)
		}
	}
}

// P15.4: of the lines that may come next the least one does, by Patch, then by N; not by when their
// part was added, by At, or by text.
func TestLeastLineIsNext(t *testing.T) {
	early, late := brings(9, root, end, "n o"), brings(5, root, end, "p q")
	for _, order := range [][]part{{early, late}, {late, early}} {
		wants(t, told(built(t, order...).Lines()), "p q n o", "patches 9 and 5")
	}
	first := part{Patch: patch(4), At: 8, First: 1, Up: root, Down: end, Lines: []string{"z"}}
	second := part{Patch: patch(4), At: 1, First: 5, Up: root, Down: end, Lines: []string{"a"}}
	zero := part{Patch: patch(0), At: 7, First: 3, Up: root, Down: end, Lines: []string{"0"}}
	for _, order := range [][]part{{first, second, zero}, {second, zero, first}, {zero, first, second}} {
		wants(t, told(built(t, order...).Lines()), "0 z a", "lines 1 and 5 of patch 4, and line 3 of the zero patch")
	}
}

// P15.4: a line comes as soon as it may: a less one that had to wait goes ahead of those that are
// left.
func TestLessLineThatWaits(t *testing.T) {
	g := built(t, brings(5, root, end, "a b c"), brings(1, at(5, 0), end, "x y"), brings(7, root, at(5, 1), "m n"))
	wants(t, told(g.Lines()), "a x y m n b c", "patches 5, 1 and 7")
	wants(t, g.Add(brings(0, at(7, 1), at(1, 0), "k")), api.ErrForm, "Add between lines that have no order")
	wants(t, g.Add(brings(0, at(7, 0), end, "k")), api.OK, "Add behind m")
	wants(t, told(g.Lines()), "a x y m k n b c", "patches 5, 1, 7 and 0")
}

// P15.3: lines of parts that meet only by others: what leads from one to another goes through many.
func TestBefore(t *testing.T) {
	parts := model{
		brings(1, root, end, "a b c d"),
		brings(2, at(1, 0), at(1, 2), "x y"), // a x y c
		brings(3, at(1, 1), at(1, 3), "u v"), // b u v d
		brings(4, at(2, 0), at(1, 3), "k"),   // x k d
		brings(5, at(2, 0), at(4, 0), "l"),   // x l k
	}
	g := built(t, parts...)
	is(t, g, parts)
	for _, x := range []struct {
		a, b api.Vertex
		want bool
	}{
		{at(1, 0), at(3, 1), true},  // a, v
		{at(2, 1), at(3, 0), false}, // y, u
		{at(3, 0), at(2, 1), false},
		{at(2, 1), at(1, 1), false}, // y, b
		{at(2, 1), at(1, 2), true},  // y, c
		{at(5, 0), at(1, 3), true},  // l, d
		{at(1, 0), at(5, 0), true},  // a, l
		{at(5, 0), at(2, 1), false}, // l, y
		{at(5, 0), at(5, 0), false},
		{root, at(5, 0), true},
		{at(5, 0), end, true},
		{end, at(5, 0), false},
		{at(5, 0), root, false},
		{root, root, false},
		{end, end, false},
		{root, at(6, 0), false},
		{at(6, 0), end, false},
		{at(6, 0), at(6, 0), false},
	} {
		wants(t, g.Before(x.a, x.b), x.want, "Before(%v, %v)", x.a, x.b)
	}
}

// P15.4: a copy has the same parts, and the two are apart: what is added and removed, and what is
// gone, and what keeps a part from being removed.
func TestCopy(t *testing.T) {
	p, q, r := partP(), partQ(), partR()
	g := built(t, p, q)
	c := g.Copy()
	is(t, c, model{p, q})
	wants(t, c.Add(q), api.ErrThere, "Add of q to the copy")
	wants(t, c.Add(r), api.OK, "Add of r to the copy")
	wants(t, g.Remove(patch(2), 0), api.OK, "Remove of q from the graph")
	is(t, g, model{p})
	is(t, c, model{p, q, r})
	wants(t, g.Remove(patch(1), 0), api.OK, "Remove of p from the graph")
	wants(t, c.Remove(patch(1), 0), api.ErrDepend, "Remove of p from the copy")
	second := c.Copy()
	wants(t, c.Remove(patch(3), 0), api.OK, "Remove of r from the copy")
	wants(t, c.Remove(patch(2), 0), api.OK, "Remove of q from the copy")
	wants(t, c.Remove(patch(1), 0), api.OK, "Remove of p from the copy")
	is(t, g, nil)
	is(t, c, nil)
	is(t, second, model{p, q, r})
	wants(t, second.Remove(patch(1), 0), api.ErrDepend, "Remove of p from the second copy")
	is(t, graph.New().Copy(), nil)
}

// P15.4: copies of graphs whose parts came and went, in any order of their names.
func TestCopyOfWhatCameAndWent(t *testing.T) {
	parts := model{brings(9, root, end, "a b"), brings(8, at(9, 0), end, "c d", at(9, 1)), brings(7, root, at(8, 1), "e"), brings(1, at(7, 0), at(8, 1), "f")}
	g := built(t, parts...)
	wants(t, g.Remove(patch(1), 0), api.OK, "Remove")
	wants(t, g.Add(brings(2, at(9, 0), at(8, 0), "h")), api.OK, "Add between patches 9 and 8")
	wants(t, g.Add(parts[3]), api.OK, "Add again")
	want := append(slices.Clone(parts), brings(2, at(9, 0), at(8, 0), "h"))
	is(t, g, want)
	c := g.Copy()
	is(t, c, want)
	tries(t, c, want, append(want, brings(0, at(1, 0), end, "k", at(2, 0)), brings(0, at(8, 0), at(9, 0), "k")))
	is(t, c.Copy().Copy(), want)
}

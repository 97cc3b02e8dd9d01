package graph_test

import (
	"math"
	"slices"
	"testing"

	"redwax/api"
	"redwax/graph"
)

// P15.1: each error by itself, and a graph that stays as it was.
func TestAddErrors(t *testing.T) {
	there := model{partP(), partQ(), {Patch: patch(0), At: 3, First: 2, Up: root, Down: end, Lines: []string{"z"}}}
	p0, p1, x := at(1, 0), at(1, 1), at(2, 0)
	for _, c := range []struct {
		p    part
		want api.Errno
	}{
		{part{Patch: patch(1), First: 7, Up: root, Down: end, Lines: []string{"n"}}, api.ErrThere},        // name
		{part{Patch: patch(1), First: 7, Up: root, Down: end, Gone: []api.Vertex{x}}, api.ErrThere},       // name
		{part{Patch: patch(1), At: 1, First: 1, Up: root, Down: end, Lines: []string{"n"}}, api.ErrThere}, // first line
		{part{Patch: patch(0), First: 1, Up: root, Down: end, Lines: []string{"n", "o"}}, api.ErrThere},   // last line
		{part{Patch: patch(0), First: 0, Up: root, Down: end, Lines: []string{"n", "o", "m", "k"}}, api.ErrThere},
		{part{Patch: patch(3), First: -1, Up: root, Down: end, Lines: []string{"n"}}, api.ErrForm},
		{part{Patch: patch(3), First: math.MinInt, Up: root, Down: end}, api.ErrForm},
		{brings(3, end, end, "n"), api.ErrForm},
		{brings(3, root, root, "n"), api.ErrForm},
		{brings(3, end, root, "n"), api.ErrForm},
		{brings(3, p0, root, "n"), api.ErrForm},
		{brings(3, end, p0, "n"), api.ErrForm},
		{brings(3, root, end, "n", root), api.ErrForm},
		{brings(3, root, end, "n", p0, end), api.ErrForm},
		{brings(3, root, end, "n", p0, x, p0), api.ErrForm},
		{brings(3, at(1, 2), end, "n"), api.ErrDepend},
		{brings(3, root, at(2, 1), "n"), api.ErrDepend},
		{brings(3, root, end, "n", p0, at(4, 0)), api.ErrDepend},
		{brings(3, at(3, 0), end, "n m"), api.ErrDepend},       // its own lines
		{brings(3, root, at(3, 1), "n m"), api.ErrDepend},      // its own lines
		{brings(3, root, end, "n m", at(3, 0)), api.ErrDepend}, // its own lines
		{brings(3, at(1, -1), end, "n"), api.ErrDepend},        // not Root: its patch is not zero
		{brings(3, root, at(1, -2), "n"), api.ErrDepend},       // not End
		{brings(3, root, end, "n", at(1, -1)), api.ErrDepend},
		{brings(3, p1, p0, "n"), api.ErrForm},
		{brings(3, p0, p0, "n"), api.ErrForm},
		{brings(3, x, p0, "n"), api.ErrForm},
		{brings(3, p1, x, ""), api.ErrForm},
		{brings(3, at(0, 2), p0, "n"), api.ErrForm}, // no order between them
		{brings(3, p0, at(0, 2), "n"), api.ErrForm},
		{brings(3, p0, x, "n m", p0, x, p1, at(0, 2)), api.OK},
		{brings(3, root, x, ""), api.OK},
		{part{Patch: patch(1), At: 1, First: 2, Up: x, Down: p1, Lines: []string{"n"}}, api.OK},
		{part{Patch: patch(1), At: -1, First: 2, Up: root, Down: p0, Lines: []string{"n"}}, api.OK},
		{part{Patch: patch(1), At: 1, First: 0, Up: root, Down: end, Gone: []api.Vertex{x}}, api.OK}, // no lines, so no vertex
	} {
		g, m := built(t, there...), slices.Clone(there)
		wants(t, g.Add(c.p), c.want, "Add of %v", c.p)
		wants(t, m.add(c.p), c.want, "the words' Add of %v", c.p)
		is(t, g, m)
		tries(t, g, m, append(slices.Clone(there), partR(), c.p))
	}
}

// P15.1: of several errors the first one is returned.
func TestFirstError(t *testing.T) {
	there := model{partP(), partQ()}
	faults := []struct {
		errno api.Errno
		make  func(p *part)
	}{
		{api.ErrForm, func(p *part) { p.Up, p.Down = at(1, 1), at(1, 0) }}, // the last one that is looked for
		{api.ErrDepend, func(p *part) { p.Gone = append(p.Gone, at(8, 0)) }},
		{api.ErrDepend, func(p *part) { p.Down = at(8, 1) }},
		{api.ErrDepend, func(p *part) { p.Up = at(8, 2) }},
		{api.ErrForm, func(p *part) { p.Gone = append(p.Gone, at(1, 0), at(1, 0)) }},
		{api.ErrForm, func(p *part) { p.Gone = append(p.Gone, end) }},
		{api.ErrForm, func(p *part) { p.Gone = append(p.Gone, root) }},
		{api.ErrForm, func(p *part) { p.Down = root }},
		{api.ErrForm, func(p *part) { p.Up = end }},
		{api.ErrForm, func(p *part) { p.First, p.Lines = -1, []string{"n", "m", "o"} }},
		{api.ErrThere, func(p *part) { p.Patch, p.At, p.First, p.Lines = patch(1), 5, 1, []string{"n"} }},
		{api.ErrThere, func(p *part) { p.Patch, p.At = patch(1), 0 }},
	}
	for some := range 1 << len(faults) {
		p, want := brings(3, at(1, 0), at(1, 1), "n m"), api.OK
		for i, f := range faults {
			if some&(1<<i) != 0 {
				f.make(&p)
				want = f.errno
			}
		}
		g, m := built(t, there...), slices.Clone(there)
		wants(t, m.add(p), want, "the words' Add of %v", p)
		if errno := g.Add(p); errno != want {
			t.Fatalf("Add of %v: %d, not %d", p, errno, want)
		}
		wants(t, told(g.Lines()), told(m.lines()), "lines after %v", p)
	}
}

// P15.1: a part whose First is below 0 may have a vertex that is in the graph, but Root and End are
// no lines.
func TestFirstBelowZero(t *testing.T) {
	zero := part{Patch: patch(0), At: 1, First: 0, Up: root, Down: end, Lines: []string{"a"}}
	for _, first := range []int{-1, -2, -3} {
		for n := range 5 {
			p := part{Patch: patch(0), At: 2, First: first, Up: root, Down: end, Lines: make([]string, n)}
			g := built(t, zero)
			want := api.ErrForm
			if first+n > 0 {
				want = api.ErrThere
			}
			wants(t, g.Add(p), want, "Add of %d lines from %d on", n, first)
			is(t, g, model{zero})
			wants(t, graph.New().Add(p), api.ErrForm, "Add of %d lines from %d on to a new graph", n, first)
		}
	}
}

// P15.1: parts of one patch, told from each other by At, numbered from their First on.
func TestPartsOfOnePatch(t *testing.T) {
	parts := model{
		{Patch: patch(1), At: 4, First: 1, Up: root, Down: end, Lines: []string{"a", "b"}},
		{Patch: patch(1), At: 2, First: 3, Up: at(1, 1), Down: at(1, 2), Lines: []string{"c"}, Gone: []api.Vertex{at(1, 2)}},
		{Patch: patch(1), At: 9, First: 0, Up: at(1, 3), Down: end, Lines: []string{"d"}},
		{Patch: patch(1), At: math.MaxInt, First: 50, Up: root, Down: end, Lines: []string{"e", "", "e"}},
		{Patch: patch(1), At: math.MinInt, First: 53, Up: at(1, 50), Down: end, Lines: []string{"f"}},
	}
	g := built(t, parts...)
	is(t, g, parts)
	wants(t, told(g.Lines()), "a c d (b) e  e f", "lines of one patch")
	for _, n := range []int{4, 49, 54} {
		wants(t, g.Has(at(1, n)), false, "Has of the number %d", n)
	}
	tries(t, g, parts, append(slices.Clone(parts), part{Patch: patch(1), At: 5, First: 54, Up: at(1, 53), Down: end, Lines: []string{"g"}}))
}

// P15.1: a part without lines contributes no edge and no vertex, but it has a name, and what it has
// in Gone is not alive.
func TestPartsWithoutLines(t *testing.T) {
	p, q, r := partP(), partQ(), brings(4, at(1, 0), at(1, 1), "", at(2, 0), at(1, 1))
	g := built(t, p, q, r)
	is(t, g, model{p, q, r})
	wants(t, told(g.Lines()), "a (x) (b)", "p q r")
	wants(t, g.Has(at(4, 0)), false, "Has of the vertex that a line of r would have")
	wants(t, g.Add(r), api.ErrThere, "Add of r again")
	nothing := part{Patch: patch(5), Up: root, Down: end}
	wants(t, g.Add(nothing), api.OK, "Add of a part with neither lines nor Gone")
	wants(t, g.Add(nothing), api.ErrThere, "Add of it again")
	wants(t, g.Add(brings(6, at(2, 0), end, "n")), api.OK, "Add of another")
	wants(t, g.Before(at(6, 0), at(1, 1)), false, "n before b")
	is(t, g, model{p, q, r, nothing, brings(6, at(2, 0), end, "n")})
	wants(t, g.Remove(patch(2), 0), api.ErrDepend, "Remove of q")
	wants(t, g.Remove(patch(6), 0), api.OK, "Remove of the last one")
	wants(t, g.Remove(patch(2), 0), api.ErrDepend, "Remove of q, which r names")
	wants(t, g.Remove(patch(4), 0), api.OK, "Remove of r")
	wants(t, g.Remove(patch(2), 0), api.OK, "Remove of q")
	is(t, g, model{p, nothing})
}

// Words: a line is alive if no part has it in Gone, however many had.
func TestAlive(t *testing.T) {
	gone := func(p int) part { return brings(p, root, end, "", at(1, 0)) }
	g := built(t, partP(), gone(2), gone(3), gone(4))
	for _, x := range []struct {
		patch int
		want  string
	}{{3, "(a) b"}, {2, "(a) b"}, {4, "a b"}} {
		wants(t, g.Remove(patch(x.patch), 0), api.OK, "Remove of patch %d", x.patch)
		wants(t, told(g.Lines()), x.want, "lines without patch %d", x.patch)
	}
	wants(t, g.Add(gone(2)), api.OK, "Add again")
	is(t, g, model{partP(), gone(2)})
}

// Texts are whatever they are: empty, equal, long, not a line.
func TestTexts(t *testing.T) {
	p := part{Patch: patch(1), Up: root, Down: end, Lines: []string{"", "", ">>>>>>>", "a\nb", "\xff\x00", string(make([]byte, 5000))}}
	g := built(t, p)
	is(t, g, model{p})
	for i, l := range g.Lines() {
		wants(t, l, graph.Line{Vertex: at(1, i), Text: p.Lines[i], Alive: true}, "line %d", i)
	}
}

// No call panics, also where numbers end.
func TestGreatNumbers(t *testing.T) {
	for _, first := range []int{math.MaxInt, math.MaxInt - 1, math.MaxInt - 2, math.MinInt} {
		for n := range 4 {
			p := part{Patch: patch(1), At: math.MinInt, First: first, Up: root, Down: end, Lines: make([]string, n)}
			g, m := graph.New(), model{}
			wants(t, g.Add(p), m.add(p), "Add of %d lines from %d on", n, first)
			is(t, g, m)
			wants(t, g.Remove(p.Patch, p.At), m.remove(p.Patch, p.At), "Remove of %d lines from %d on", n, first)
			is(t, g, nil)
		}
	}
}

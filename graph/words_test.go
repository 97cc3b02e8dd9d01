package graph_test

import (
	"bytes"
	"math/rand"
	"slices"
	"strconv"
	"strings"
	"testing"

	"redwax/api"
	"redwax/graph"
)

type part = graph.Part

// The vertices that every graph has, by the numbers that the chapter gives them.
var (
	root = api.Vertex{N: -1}
	end  = api.Vertex{N: -2}
)

// patch is the hash of patch n, greater for greater ones; that of 0 is zero.
func patch(n int) api.Hash {
	return api.Hash{0: byte(n >> 16), 7: byte(n >> 8), 31: byte(n)}
}

// at is the vertex of patch p with the number n.
func at(p, n int) api.Vertex {
	return api.Vertex{Patch: patch(p), N: n}
}

// brings is a part of patch p, At 0 and First 0, with the lines that are written with spaces between.
func brings(p int, up, down api.Vertex, lines string, gone ...api.Vertex) part {
	return part{Patch: patch(p), Up: up, Down: down, Lines: strings.Fields(lines), Gone: gone}
}

// The parts of the chapter's examples.
func partP() part { return brings(1, root, end, "a b") }
func partQ() part { return brings(2, at(1, 0), at(1, 1), "x") }
func partR() part { return brings(3, at(1, 0), at(1, 1), "y", at(1, 0)) }

// wants fails the test if got is not what is wanted.
func wants[T comparable](t *testing.T, got, want T, format string, args ...any) {
	t.Helper()
	if got != want {
		t.Errorf(format+": %v, not %v", append(args, got, want)...)
	}
}

// told is how lines are written: their texts, those that are not alive in brackets.
func told(l []graph.Line) string {
	var words []string
	for _, x := range l {
		if x.Alive {
			words = append(words, x.Text)
		} else {
			words = append(words, "("+x.Text+")")
		}
	}
	return strings.Join(words, " ")
}

// built is a graph to which these parts have been added.
func built(t *testing.T, parts ...part) *graph.Graph {
	t.Helper()
	g := graph.New()
	for _, p := range parts {
		wants(t, g.Add(p), api.OK, "Add of %v", p)
	}
	return g
}

// model is the graph of some parts, worked out anew by the chapter's words for each question.
type model []part

// ownOf are the vertices of the lines of p.
func ownOf(p part) []api.Vertex {
	var l []api.Vertex
	for i := range p.Lines {
		l = append(l, api.Vertex{Patch: p.Patch, N: p.First + i})
	}
	return l
}

// own are the vertices of all lines.
func (m model) own() []api.Vertex {
	var l []api.Vertex
	for _, p := range m {
		l = append(l, ownOf(p)...)
	}
	return l
}

// has reports whether v is a vertex.
func (m model) has(v api.Vertex) bool {
	return v == root || v == end || slices.Contains(m.own(), v)
}

// named reports whether v is Up, Down or in Gone of a part.
func (m model) named(v api.Vertex) bool {
	return slices.ContainsFunc(m, func(p part) bool {
		return p.Up == v || p.Down == v || slices.Contains(p.Gone, v)
	})
}

// find is the index of the part with a name, or -1.
func (m model) find(patch api.Hash, at int) int {
	return slices.IndexFunc(m, func(p part) bool { return p.Patch == patch && p.At == at })
}

// edge leads from one vertex to another.
type edge struct{ from, to api.Vertex }

// edges are those that the parts contribute.
func (m model) edges() []edge {
	var l []edge
	for _, p := range m {
		own := ownOf(p)
		if len(own) == 0 {
			continue
		}
		l = append(l, edge{p.Up, own[0]}, edge{own[len(own)-1], p.Down})
		for i := range len(own) - 1 {
			l = append(l, edge{own[i], own[i+1]})
		}
	}
	return l
}

// behind are the vertices that paths of one or more edges lead to from v; edges are m's.
func behind(edges []edge, v api.Vertex) map[api.Vertex]bool {
	reached := map[api.Vertex]bool{}
	left := []api.Vertex{v}
	for len(left) > 0 {
		from := left[0]
		left = left[1:]
		for _, e := range edges {
			if e.from == from && !reached[e.to] {
				reached[e.to] = true
				left = append(left, e.to)
			}
		}
	}
	return reached
}

// before reports whether a is before b; edges are m's.
func (m model) before(edges []edge, a, b api.Vertex) bool {
	switch {
	case !m.has(a) || !m.has(b) || a == b:
		return false
	case a == root || b == end:
		return true
	}
	return behind(edges, a)[b]
}

// lines are all lines in their order.
func (m model) lines() []graph.Line {
	var l []graph.Line
	edges := m.edges()
	ahead := map[api.Vertex]int{}
	for _, v := range m.own() {
		for w := range behind(edges, v) {
			ahead[w]++
		}
	}
	left := m.own()
	for len(left) > 0 {
		least := -1
		for i, v := range left {
			if ahead[v] == 0 && (least < 0 || less(v, left[least])) {
				least = i
			}
		}
		v := left[least]
		left = slices.Delete(left, least, least+1)
		for w := range behind(edges, v) {
			ahead[w]--
		}
		l = append(l, m.line(v))
	}
	return l
}

// line is the line of a vertex.
func (m model) line(v api.Vertex) graph.Line {
	l := graph.Line{Vertex: v, Alive: true}
	for _, p := range m {
		if i := slices.Index(ownOf(p), v); i >= 0 {
			l.Text = p.Lines[i]
		}
		if slices.Contains(p.Gone, v) {
			l.Alive = false
		}
	}
	return l
}

// less reports whether a comes first of two lines that may both come next.
func less(a, b api.Vertex) bool {
	if a.Patch != b.Patch {
		return bytes.Compare(a.Patch[:], b.Patch[:]) < 0
	}
	return a.N < b.N
}

// add is P15.1's Add.
func (m *model) add(p part) api.Errno {
	if m.find(p.Patch, p.At) >= 0 {
		return 6
	}
	for _, v := range ownOf(p) {
		if slices.Contains(m.own(), v) {
			return 6
		}
	}
	if p.First < 0 || p.Up == end || p.Down == root {
		return 4
	}
	for i, v := range p.Gone {
		if v == root || v == end || slices.Contains(p.Gone[:i], v) {
			return 4
		}
	}
	for _, v := range append([]api.Vertex{p.Up, p.Down}, p.Gone...) {
		if !m.has(v) {
			return 10
		}
	}
	if !m.before(m.edges(), p.Up, p.Down) {
		return 4
	}
	*m = append(*m, p)
	return 0
}

// remove is P15.2's Remove.
func (m *model) remove(patch api.Hash, at int) api.Errno {
	i := m.find(patch, at)
	if i < 0 {
		return 5
	}
	others := slices.Delete(slices.Clone(*m), i, i+1)
	if slices.ContainsFunc(ownOf((*m)[i]), others.named) {
		return 10
	}
	*m = others
	return 0
}

// is checks all that g tells: it must be the graph of the parts of m.
func is(t *testing.T, g *graph.Graph, m model) {
	t.Helper()
	if got, want := g.Lines(), m.lines(); !slices.Equal(got, want) {
		t.Fatalf("lines of %v: %s, not %s", m, told(got), told(want))
	}
	all := append(m.own(), root, end)
	strange := []api.Vertex{at(1, -1), at(1, -2), at(0, -3), at(99, 0), at(1, 99), {}}
	for _, v := range append(all, strange...) {
		if g.Has(v) != m.has(v) {
			t.Fatalf("Has of %v in %v: %v", v, m, g.Has(v))
		}
		for _, x := range strange {
			if !m.has(x) && (g.Before(v, x) || g.Before(x, v)) {
				t.Fatalf("%v has an order with %v, which is no vertex of %v", v, x, m)
			}
		}
	}
	edges := m.edges()
	for _, a := range all {
		after := behind(edges, a)
		for _, b := range all {
			want := a != b && (a == root || b == end || after[b])
			if g.Before(a, b) != want {
				t.Fatalf("Before(%v, %v) of %v: %v", a, b, m, !want)
			}
		}
	}
}

// tries checks what the graph of m returns for the parts to be added and the names to be removed,
// each by itself.
func tries(t *testing.T, g *graph.Graph, m model, parts []part) {
	t.Helper()
	for _, p := range parts {
		c, n := g.Copy(), slices.Clone(m)
		if got, want := c.Add(p), n.add(p); got != want {
			t.Fatalf("Add of %v to %v: %d, not %d", p, m, got, want)
		}
		c, n = g.Copy(), slices.Clone(m)
		if got, want := c.Remove(p.Patch, p.At), n.remove(p.Patch, p.At); got != want {
			t.Fatalf("Remove of %v from %v: %d, not %d", p, m, got, want)
		}
	}
}

// randomPart is a part for the graph of m: it mostly can be added, and else has a fault or two.
func randomPart(random *rand.Rand, m model) part {
	vertices := append(m.own(), root, end)
	pick := func() api.Vertex {
		if random.Intn(12) == 0 {
			return at(random.Intn(6), random.Intn(6)-3)
		}
		return vertices[random.Intn(len(vertices))]
	}
	p := part{Patch: patch(random.Intn(6)), At: random.Intn(4), First: random.Intn(12), Up: pick(), Down: pick()}
	if random.Intn(20) == 0 {
		p.First = -1 - random.Intn(3)
	}
	if random.Intn(4) > 0 && m.before(m.edges(), p.Down, p.Up) {
		p.Up, p.Down = p.Down, p.Up
	}
	for range random.Intn(4) {
		p.Lines = append(p.Lines, strconv.Itoa(random.Intn(5)))
	}
	for range random.Intn(4) - 1 {
		p.Gone = append(p.Gone, pick())
	}
	return p
}

// randomModel is the graph of so many random parts.
func randomModel(random *rand.Rand, parts int) model {
	var m model
	for tries := 0; len(m) < parts && tries < 1000; tries++ {
		m.add(randomPart(random, m))
	}
	return m
}

// shuffled are the parts of m in a random order in which they can be added.
func shuffled(random *rand.Rand, m model) model {
	var sorted model
	left := slices.Clone(m)
	for len(left) > 0 {
		i := random.Intn(len(left))
		if sorted.add(left[i]) == 0 {
			left = slices.Delete(left, i, i+1)
		}
	}
	return sorted
}

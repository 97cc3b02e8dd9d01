package graph_test

import (
	"math/rand"
	"slices"
	"strings"
	"testing"
	"unsafe"

	"redwax/api"
	"redwax/graph"
)

// P15.1 to P15.4: random calls, each of which must return and leave what the words say.
func TestRandomCalls(t *testing.T) {
	random := rand.New(rand.NewSource(151))
	seen := map[api.Errno]int{}
	for range 200 {
		g, m := graph.New(), model{}
		for range 60 {
			p := randomPart(random, m)
			if random.Intn(3) == 0 {
				if len(m) > 0 && random.Intn(4) > 0 {
					p = m[random.Intn(len(m))]
				}
				want := m.remove(p.Patch, p.At)
				wants(t, g.Remove(p.Patch, p.At), want, "Remove of %v from %v", p, m)
				seen[-want]++
			} else {
				want := m.add(p)
				wants(t, g.Add(p), want, "Add of %v to %v", p, m)
				seen[want]++
			}
			if random.Intn(4) == 0 {
				g = g.Copy()
			}
			is(t, g, m)
		}
	}
	for _, errno := range []api.Errno{0, 4, 6, 10, -5, -10} {
		if seen[errno] < 100 {
			t.Errorf("error %d is tested only %d times", errno, seen[errno])
		}
	}
}

// P15.1 to P15.4: all rows of two calls and some of three, of a few parts.
func TestShortRows(t *testing.T) {
	var parts []part
	vertices := []api.Vertex{root, end, at(0, 0), at(0, 1), at(1, 0)}
	for p := range 2 {
		for n := range 3 {
			for _, up := range vertices {
				for _, down := range vertices {
					for _, gone := range [][]api.Vertex{nil, {at(0, 0)}} {
						parts = append(parts, part{Patch: patch(p), First: 0, Up: up, Down: down, Lines: []string{"a", "b"}[:n], Gone: gone})
					}
				}
			}
		}
	}
	random := rand.New(rand.NewSource(152))
	for _, first := range parts {
		m := model{}
		g := graph.New()
		wants(t, g.Add(first), m.add(first), "Add of %v", first)
		is(t, g, m)
		if len(m) == 0 {
			continue
		}
		for _, second := range parts {
			c, n := g.Copy(), slices.Clone(m)
			wants(t, c.Add(second), n.add(second), "Add of %v to %v", second, m)
			if len(n) == 2 || random.Intn(10) == 0 {
				is(t, c, n)
				tries(t, c, n, append([]part{first}, parts[random.Intn(len(parts))]))
			}
		}
	}
}

// P15.5: before is irreflexive, asymmetric and transitive, and the lines are in an order with it.
func TestBeforeIsAnOrder(t *testing.T) {
	random := rand.New(rand.NewSource(153))
	for range 60 {
		m := randomModel(random, 1+random.Intn(10))
		g := built(t, m...)
		var row []api.Vertex
		for _, l := range g.Lines() {
			row = append(row, l.Vertex)
		}
		row = append(append([]api.Vertex{root}, row...), end)
		wants(t, len(row), len(m.own())+2, "how many vertices %v has", m)
		for i, a := range row {
			for j, b := range row {
				if g.Before(a, b) && i >= j {
					t.Fatalf("%v: %v is before %v, but not in the order of the lines", m, a, b)
				}
				for _, c := range row {
					if g.Before(a, b) && g.Before(b, c) && !g.Before(a, c) {
						t.Fatalf("%v: %v is before %v, and that before %v, but the first not before the last", m, a, b, c)
					}
				}
			}
		}
	}
}

// P15.5: what was before stays before, and what had no order gets none, whatever is added.
func TestBeforeStays(t *testing.T) {
	random := rand.New(rand.NewSource(154))
	for range 100 {
		g := graph.New()
		var m model
		for range 12 {
			was := append(m.own(), root, end)
			old := g.Copy()
			p := randomPart(random, m)
			wants(t, g.Add(p), m.add(p), "Add of %v", p)
			for _, a := range was {
				for _, b := range was {
					wants(t, g.Before(a, b), old.Before(a, b), "Before(%v, %v) after %v", a, b, p)
				}
			}
		}
	}
}

// P15.6: parts in whatever order they can be added in, some of them removed and added again.
func TestOnlyTheSetMatters(t *testing.T) {
	random := rand.New(rand.NewSource(155))
	for range 60 {
		m := randomModel(random, 2+random.Intn(9))
		probes := append(slices.Clone(m), randomPart(random, m), randomPart(random, m), randomPart(random, m))
		for range 5 {
			g := built(t, shuffled(random, m)...)
			for range 6 {
				p := m[random.Intn(len(m))]
				if g.Remove(p.Patch, p.At) == api.OK {
					wants(t, g.Add(p), api.OK, "Add of %v again", p)
				}
			}
			is(t, g, m)
			tries(t, g, m, probes)
		}
	}
}

// P15.6: a part that is added and removed again leaves the graph as it was.
func TestAddAndRemove(t *testing.T) {
	random := rand.New(rand.NewSource(156))
	for range 200 {
		m := randomModel(random, random.Intn(8))
		g := built(t, m...)
		for range 10 {
			p := randomPart(random, m)
			if g.Add(p) == api.OK {
				wants(t, g.Remove(p.Patch, p.At), api.OK, "Remove of %v from %v", p, m)
			}
			is(t, g, m)
		}
		tries(t, g, m, append(slices.Clone(m), randomPart(random, m)))
	}
}

// P15.7: what is passed is not modified, not even behind a list's length.
func TestArgumentsAreLeft(t *testing.T) {
	g := built(t, partP())
	lines := []string{"x", "y", "behind"}
	gone := []api.Vertex{at(1, 1), at(1, 0), at(7, 7)}
	p := part{Patch: patch(2), Up: root, Down: end, Lines: lines[:2], Gone: gone[:2]}
	wants(t, g.Add(p), api.OK, "Add")
	g.Lines()
	g.Copy()
	wants(t, g.Remove(patch(2), 0), api.OK, "Remove")
	wants(t, strings.Join(lines, " "), "x y behind", "the lines")
	wants(t, slices.Equal(gone, []api.Vertex{at(1, 1), at(1, 0), at(7, 7)}), true, "that Gone is left")
}

// P15.7: what becomes of an argument later changes no graph, and no copy.
func TestArgumentsAreNotRetained(t *testing.T) {
	g := built(t, partP())
	text := []byte("x")
	p := part{Patch: patch(2), Up: root, Down: end, Lines: []string{unsafe.String(&text[0], 1)}, Gone: []api.Vertex{at(1, 1)}}
	wants(t, g.Add(p), api.OK, "Add")
	c := g.Copy()
	p.Lines[0], p.Gone[0], text[0] = "other", at(1, 0), 'z'
	wants(t, told(g.Lines()), "a (b) x", "lines")
	wants(t, told(c.Lines()), "a (b) x", "the copy's lines")
	wants(t, told(g.Copy().Lines()), "a (b) x", "a later copy's lines")
	wants(t, g.Remove(patch(2), 0), api.OK, "Remove")
	wants(t, told(g.Lines()), "a b", "lines after Remove")
}

// P15.7: what is returned shares no memory with the graph, or with what was returned before.
func TestLinesAreNew(t *testing.T) {
	g := built(t, partP(), partQ())
	first, second := g.Lines(), g.Lines()
	for i := range first {
		if unsafe.StringData(first[i].Text) == unsafe.StringData(second[i].Text) {
			t.Errorf("the text of line %d is the same string twice", i)
		}
		first[i] = graph.Line{Text: "written over"}
	}
	_ = append(first, graph.Line{})
	wants(t, told(second), "a x b", "what was returned before")
	is(t, g, model{partP(), partQ()})
}

// Great graphs: each part behind the first line of the one before it, each in the middle of the one
// before it, and all side by side.
func TestGreatGraphs(t *testing.T) {
	const many = 20000
	for _, x := range []struct {
		name   string
		part   func(i int) part
		before bool       // is the first part's first line before the last part's?
		within bool       // and that one before the first part's last line?
		second api.Vertex // what comes behind the first line
	}{
		{"behind", func(i int) part { return brings(i, at(i-1, 0), end, "x y", at(i-1, 0)) }, true, false, at(0, 1)},
		{"within", func(i int) part { return brings(i, at(i-1, 0), at(i-1, 1), "x y", at(i-1, 1)) }, true, true, at(1, 0)},
		{"side by side", func(i int) part { return brings(i, root, end, "x y") }, false, false, at(0, 1)},
	} {
		g := built(t, brings(0, root, end, "a b"))
		for i := 1; i < many; i++ {
			wants(t, g.Add(x.part(i)), api.OK, "%s: Add of %d", x.name, i)
		}
		for _, c := range []*graph.Graph{g, g.Copy()} {
			l := c.Lines()
			wants(t, len(l), 2*many, "%s: how many lines", x.name)
			wants(t, l[1].Vertex, x.second, "%s: the second line", x.name)
			wants(t, c.Before(at(0, 0), at(many-1, 0)), x.before, "%s: the first before the last", x.name)
			wants(t, c.Before(at(many-1, 0), at(0, 0)), false, "%s: the last before the first", x.name)
			wants(t, c.Before(at(many-1, 0), at(0, 1)), x.within, "%s: the last before the end of the first", x.name)
		}
	}
}

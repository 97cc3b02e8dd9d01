package render_test

import (
	"math/rand"
	"slices"
	"strconv"
	"strings"
	"testing"

	"redwax/api"
	"redwax/graph"
	"redwax/render"
)

type (
	part = graph.Part
	item = render.Item
)

// The vertices that every graph has, by the numbers that chapter 15 gives them.
var (
	root = api.Vertex{N: -1}
	end  = api.Vertex{N: -2}
)

// patch is the hash of patch n, greater for greater ones.
func patch(n int) api.Hash {
	return api.Hash{7: byte(n >> 8), 31: byte(n)}
}

// at is the vertex of patch p with the number n.
func at(p, n int) api.Vertex {
	return api.Vertex{Patch: patch(p), N: n}
}

// brings is a part of patch p, At 0 and First 0, with the lines that are written with spaces between.
func brings(p int, up, down api.Vertex, lines string, gone ...api.Vertex) part {
	return part{Patch: patch(p), Up: up, Down: down, Lines: strings.Fields(lines), Gone: gone}
}

// partP is the part p of the chapter's examples.
func partP() part { return brings(1, root, end, "a b") }

// between is a part of patch p with lines between the two of partP.
func between(p int, lines string, gone ...api.Vertex) part {
	return brings(p, at(1, 0), at(1, 1), lines, gone...)
}

// built is the graph of some parts.
func built(t *testing.T, parts ...part) *graph.Graph {
	t.Helper()
	g := graph.New()
	for _, p := range parts {
		if errno := g.Add(p); errno != api.OK {
			t.Fatalf("Add of %v: %d", p, errno)
		}
	}
	return g
}

// wants fails the test if got is not what is wanted.
func wants[T comparable](t *testing.T, got, want T, format string, args ...any) {
	t.Helper()
	if got != want {
		t.Errorf(format+": %v, not %v", append(args, got, want)...)
	}
}

// told is how items are written: a block in brackets, with a stroke before each of its middles.
func told(l []item) string {
	var words []string
	for _, x := range l {
		if x.Block {
			words = append(words, "[")
		}
		for i, line := range x.Lines {
			if slices.Contains(x.Middles, i) {
				words = append(words, "|")
			}
			words = append(words, line.Text)
		}
		if x.Block {
			words = append(words, "]")
		}
	}
	return strings.Join(words, " ")
}

// same reports whether two lists have the same items.
func same(a, b []item) bool {
	return slices.EqualFunc(a, b, func(x, y item) bool {
		return x.Block == y.Block && slices.Equal(x.Lines, y.Lines) && slices.Equal(x.Middles, y.Middles)
	})
}

// ordered is the words' relation of two lines.
func ordered(g *graph.Graph, a, b graph.Line) bool {
	return g.Before(a.Vertex, b.Vertex) || g.Before(b.Vertex, a.Vertex)
}

// aliveOf are the lines that are considered.
func aliveOf(g *graph.Graph) []graph.Line {
	var l []graph.Line
	for _, x := range g.Lines() {
		if x.Alive {
			l = append(l, x)
		}
	}
	return l
}

// itemsOf is P16.1's Items, by the words: each line is compared with each other one.
func itemsOf(g *graph.Graph) []item {
	var items []item
	l := aliveOf(g)
	inBlock := false
	for i, x := range l {
		isSolid := true
		for j, y := range l {
			isSolid = isSolid && (i == j || ordered(g, x, y))
		}
		if isSolid {
			items = append(items, item{Lines: []graph.Line{x}})
		} else if !inBlock {
			items = append(items, item{Lines: []graph.Line{x}, Block: true})
		} else {
			b := &items[len(items)-1]
			if !ordered(g, l[i-1], x) {
				b.Middles = append(b.Middles, len(b.Lines))
			}
			b.Lines = append(b.Lines, x)
		}
		inBlock = !isSolid
	}
	return items
}

// textOf is P16.2's Text, by the words.
func textOf(l []item) []string {
	var text []string
	for _, x := range l {
		if !x.Block {
			for _, line := range x.Lines {
				text = append(text, line.Text)
			}
			continue
		}
		text = append(text, ">>>>>>>")
		for i, line := range x.Lines {
			if slices.Contains(x.Middles, i) {
				text = append(text, "=======")
			}
			text = append(text, line.Text)
		}
		text = append(text, "<<<<<<<")
	}
	return text
}

// is checks all that the package tells of g.
func is(t *testing.T, g *graph.Graph) {
	t.Helper()
	got, want := render.Items(g), itemsOf(g)
	if !same(got, want) {
		t.Fatalf("items: %s, not %s", told(got), told(want))
	}
	if text := render.Text(got); !slices.Equal(text, textOf(want)) {
		t.Fatalf("text of %s: %q", told(want), text)
	}
	wants(t, render.Conflict(got), strings.Contains(told(want), "["), "Conflict of %s", told(want))
}

// randomPart is a part that can be added to g, of one patch of many. Few of its lines go if rare.
func randomPart(random *rand.Rand, g *graph.Graph, rare bool) part {
	vertices := []api.Vertex{root, end}
	for _, l := range g.Lines() {
		vertices = append(vertices, l.Vertex)
	}
	pick := func() api.Vertex { return vertices[random.Intn(len(vertices))] }
	for {
		p := part{Patch: patch(1 + random.Intn(500)), At: random.Intn(100), First: random.Intn(100), Up: pick(), Down: pick()}
		if g.Before(p.Down, p.Up) {
			p.Up, p.Down = p.Down, p.Up
		}
		for range random.Intn(4) {
			p.Lines = append(p.Lines, strconv.Itoa(random.Intn(100)))
		}
		for range random.Intn(3) {
			if v := pick(); v.N >= 0 && !slices.Contains(p.Gone, v) && (!rare || random.Intn(4) == 0) {
				p.Gone = append(p.Gone, v)
			}
		}
		if g.Copy().Add(p) == api.OK {
			return p
		}
	}
}

// randomParts are so many parts, each of which can be added after those ahead of it.
func randomParts(random *rand.Rand, n int) []part {
	var parts []part
	g := graph.New()
	rare := random.Intn(2) == 0
	for range n {
		p := randomPart(random, g, rare)
		g.Add(p)
		parts = append(parts, p)
	}
	return parts
}

package render_test

import (
	"math/rand"
	"slices"
	"strings"
	"testing"

	"redwax/api"
	"redwax/graph"
	"redwax/render"
)

// The chapter's examples.
func TestExamples(t *testing.T) {
	for _, x := range []struct {
		parts []part
		want  string
	}{
		{[]part{partP(), between(2, "x")}, "a x b"},
		{[]part{partP(), between(2, "x"), between(3, "y")}, "a >>>>>>> x ======= y <<<<<<< b"},
		{[]part{partP(), between(2, "x1 x2"), between(3, "y")}, "a >>>>>>> x1 x2 ======= y <<<<<<< b"},
	} {
		g := built(t, x.parts...)
		wants(t, strings.Join(render.Text(render.Items(g)), " "), x.want, "text of %v", x.parts)
		wants(t, render.Conflict(render.Items(g)), len(x.parts) == 3, "Conflict of %v", x.parts)
		is(t, g)
	}
}

// P16.1: what is an item, and which indices are middles.
func TestItems(t *testing.T) {
	for _, x := range []struct {
		name  string
		parts []part
		want  string
	}{
		{"no parts", nil, ""},
		{"no lines", []part{brings(1, root, end, "")}, ""},
		{"one line", []part{brings(1, root, end, "a")}, "a"},
		{"no line alive", []part{partP(), brings(2, root, end, "", at(1, 0), at(1, 1))}, ""},
		{"two patches by themselves", []part{brings(1, root, end, "a"), brings(2, root, end, "b")}, "[ a | b ]"},
		{"three lines by themselves", []part{partP(), between(4, "z"), between(3, "y"), between(2, "x")}, "a [ x | y | z ] b"},
		{"the lesser patch goes first, all of it", []part{partP(), between(3, "x"), between(2, "y1 y2")}, "a [ y1 y2 | x ] b"},
		{"a block ahead of all solid lines", []part{brings(1, root, end, "a"), brings(2, root, at(1, 0), "x"), brings(3, root, at(1, 0), "y")}, "[ x | y ] a"},
		{"a block behind all solid lines", []part{brings(1, root, end, "a"), brings(2, at(1, 0), end, "x"), brings(3, at(1, 0), end, "y")}, "a [ x | y ]"},
		{
			"one solid line between two blocks",
			[]part{brings(5, root, end, "s"), brings(1, root, at(5, 0), "a"), brings(2, root, at(5, 0), "b"), brings(3, at(5, 0), end, "c"), brings(4, at(5, 0), end, "d e")},
			"[ a | b ] s [ c | d e ]",
		},
		{ // x1 is ordered with x2, but y stands between them
			"a line between two that are ordered",
			[]part{partP(), between(2, "x1"), brings(9, at(2, 0), at(1, 1), "x2"), between(4, "y")},
			"a [ x1 | y | x2 ] b",
		},
		{ // each is ordered with the one ahead of it but y
			"many lines that are not ordered with one",
			[]part{partP(), between(2, "x1 x2 x3 x4"), between(3, "y")},
			"a [ x1 x2 x3 x4 | y ] b",
		},
		{ // only x2 and y are not ordered
			"solid lines close around two others",
			[]part{partP(), between(2, "x1 x2 x3"), brings(3, at(2, 0), at(2, 2), "y")},
			"a x1 [ x2 | y ] x3 b",
		},
		{ // x1 with y1 alone, x2 with y1 and y2: no solid line between
			"a block of pairs that hang together",
			[]part{partP(), between(2, "x1 x2"), brings(3, at(1, 0), at(2, 1), "y1"), brings(4, at(3, 0), at(1, 1), "y2")},
			"a [ x1 | y1 x2 | y2 ] b",
		},
		{ // x and y, z and v
			"blocks between solid lines of the same patch",
			[]part{brings(1, root, end, "a b c"), between(2, "x"), between(3, "y"), brings(4, at(1, 1), at(1, 2), "z"), brings(5, at(1, 1), at(1, 2), "v")},
			"a [ x | y ] b [ z | v ] c",
		},
		{ // they stay before or behind what is gone
			"a gone line between others",
			[]part{brings(1, root, end, "a b c"), between(2, "x"), brings(3, at(1, 1), at(1, 2), "y", at(1, 1))},
			"a x y c",
		},
		{ // with nothing solid between, the blocks are one
			"two blocks around a gone line",
			[]part{brings(1, root, end, "a b c"), between(2, "x"), between(3, "y"), brings(4, at(1, 1), at(1, 2), "z"), brings(5, at(1, 1), at(1, 2), "v", at(1, 1))},
			"a [ x | y z | v ] c",
		},
		{ // a gone line orders, but is not considered
			"a gone line in a block",
			[]part{partP(), between(2, "x"), between(3, "y"), brings(4, root, end, "", at(3, 0))},
			"a x b",
		},
		{ // a solid line is ordered with those that are alive, whatever there is besides
			"a line that is not ordered with gone ones",
			[]part{partP(), between(2, "x1 x2 x3"), between(3, "y1 y2", at(1, 0)), brings(4, root, end, "", at(2, 0), at(2, 1), at(2, 2), at(3, 0))},
			"y2 b",
		},
		{ // the gone one stood between the two in the list
			"a middle behind a gone line",
			[]part{partP(), between(2, "x1 x2 x3"), between(3, "y"), brings(4, root, end, "", at(2, 1), at(2, 2))},
			"a [ x1 | y ] b",
		},
		{
			"a gone line between ordered ones of a block",
			[]part{partP(), between(2, "x1 x2 x3"), between(3, "y"), brings(4, root, end, "", at(2, 1))},
			"a [ x1 x3 | y ] b",
		},
		{"equal texts", []part{partP(), between(2, "b"), between(3, "b b")}, "a [ b | b b ] b"},
	} {
		g := built(t, x.parts...)
		wants(t, told(render.Items(g)), x.want, "%s", x.name)
		is(t, g)
	}
}

// P16.1: nil, and what neither New nor Copy of a graph returned, which has no lines.
func TestNoGraph(t *testing.T) {
	made := built(t, partP(), between(2, "x"), between(3, "y"))
	value := *made
	for i, g := range []*graph.Graph{nil, {}, &value, graph.New()} {
		wants(t, len(render.Items(g)), 0, "items of graph %d", i)
	}
	wants(t, told(render.Items(made)), "a [ x | y ] b", "items of a graph")
	wants(t, told(render.Items(made.Copy())), "a [ x | y ] b", "items of its copy")
}

// P16.1: each item has its lines as the graph tells them.
func TestLinesOfItems(t *testing.T) {
	g := built(t, partP(), between(7, "x", at(1, 1)), between(3, "y"))
	items := render.Items(g)
	want := []item{
		{Lines: []graph.Line{{Vertex: at(1, 0), Text: "a", Alive: true}}},
		{Lines: []graph.Line{{Vertex: at(3, 0), Text: "y", Alive: true}, {Vertex: at(7, 0), Text: "x", Alive: true}}, Block: true, Middles: []int{1}},
	}
	if !same(items, want) {
		t.Errorf("items: %v, not %v", items, want)
	}
	wants(t, items[0].Middles == nil, true, "that a solid line has no middles")
}

// P16.1: texts are whatever they are, markers too.
func TestTexts(t *testing.T) {
	texts := []string{"", ">>>>>>>", "a\nb", "\xff\x00", strings.Repeat("long ", 1000), "======="}
	g := built(t, part{Patch: patch(1), Up: root, Down: end, Lines: texts})
	wants(t, slices.Equal(render.Text(render.Items(g)), texts), true, "that the texts are told")
	is(t, g)
	is(t, built(t, part{Patch: patch(1), Up: root, Down: end, Lines: texts}, part{Patch: patch(2), Up: root, Down: end, Lines: texts}))
}

// P16.1: random graphs, held against the words.
func TestRandomGraphs(t *testing.T) {
	random := rand.New(rand.NewSource(161))
	solid, blocks, greatest := 0, 0, 0
	for range 3000 {
		g := built(t, randomParts(random, random.Intn(9))...)
		is(t, g)
		for _, x := range render.Items(g) {
			if x.Block {
				blocks++
				greatest = max(greatest, len(x.Lines))
			} else {
				solid++
			}
		}
	}
	if solid < 1000 || blocks < 1000 || greatest < 8 {
		t.Errorf("only %d solid lines, %d blocks, the greatest of %d lines", solid, blocks, greatest)
	}
}

// P16.1: all rows of three parts that small ones can form.
func TestSmallGraphs(t *testing.T) {
	var small []part
	for p := 1; p <= 3; p++ {
		for _, lines := range []string{"", "x", "x y"} {
			for _, up := range []api.Vertex{root, at(1, 0), at(2, 0), at(3, 0), at(2, 1)} {
				for _, down := range []api.Vertex{end, at(1, 0), at(2, 1), at(3, 0), at(1, 1)} {
					for _, gone := range [][]api.Vertex{nil, {at(2, 0)}} {
						small = append(small, brings(p, up, down, lines, gone...))
					}
				}
			}
		}
	}
	var extend func(g *graph.Graph, depth int)
	extend = func(g *graph.Graph, depth int) {
		is(t, g)
		if depth == 0 {
			return
		}
		for _, p := range small {
			if g.Add(p) == api.OK {
				extend(g, depth-1)
				wants(t, g.Remove(p.Patch, p.At), api.OK, "Remove of %v", p)
			}
		}
	}
	extend(graph.New(), 3)
}

// P16.1: the items are those of the set of parts, however they came.
func TestOnlyTheSetMatters(t *testing.T) {
	random := rand.New(rand.NewSource(162))
	for range 100 {
		parts := randomParts(random, 2+random.Intn(8))
		want := render.Items(built(t, parts...))
		for range 5 {
			g := graph.New()
			for left := slices.Clone(parts); len(left) > 0; {
				i := random.Intn(len(left))
				if g.Add(left[i]) == api.OK {
					left = slices.Delete(left, i, i+1)
				}
			}
			if got := render.Items(g); !same(got, want) {
				t.Fatalf("items of %v: %s, not %s", parts, told(got), told(want))
			}
		}
	}
}

// Great graphs: all parts side by side, each within the one before it, each behind the first line
// of the one before it, and pairs in a row.
func TestGreatGraphs(t *testing.T) {
	const many = 20000
	for _, x := range []struct {
		name                  string
		part                  func(i int) part
		items, blocks, middle int
	}{
		{"side by side", func(i int) part { return brings(i, root, end, "x y") }, 1, 1, many - 1},
		{"within", func(i int) part { return brings(i, at(i-1, 0), at(i-1, 1), "x y") }, 2 * many, 0, 0},
		{"behind", func(i int) part { return brings(i, at(i-1, 0), end, "x y", at(i-1, 0)) }, 1, 1, many - 1},
		{"a row of pairs", row, many + 2, many/2 - 1, many/2 - 1},
	} {
		g := built(t, brings(0, root, end, "a b"))
		for i := 1; i < many; i++ {
			wants(t, g.Add(x.part(i)), api.OK, "%s: Add of %d", x.name, i)
		}
		items := render.Items(g)
		blocks, middle := 0, 0
		for _, x := range items {
			middle += len(x.Middles)
			if x.Block {
				blocks++
			}
		}
		wants(t, len(items), x.items, "%s: how many items", x.name)
		wants(t, blocks, x.blocks, "%s: how many blocks", x.name)
		wants(t, middle, x.middle, "%s: how many middles", x.name)
		wants(t, len(render.Text(items)), len(aliveOf(g))+2*blocks+middle, "%s: how many rendered lines", x.name)
	}
}

// row is the part i of a row of pairs with solid lines between: each odd part brings a line and the
// solid one behind it, each even one a line by the side of that line.
func row(i int) part {
	up := at(0, 0)
	if i > 2 {
		up = at((i-1)/2*2-1, 1)
	}
	if i%2 == 1 {
		return brings(i, up, at(0, 1), "x s")
	}
	return brings(i, up, at(i-1, 1), "y")
}

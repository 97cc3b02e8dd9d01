package render_test

import (
	"math/rand"
	"slices"
	"testing"
	"unsafe"

	"redwax/api"
	"redwax/graph"
	"redwax/render"
)

// P16.3: the items have all lines that are alive, in order; a block has two or more, and a middle;
// no block follows another one.
func TestAllLinesInOrder(t *testing.T) {
	random := rand.New(rand.NewSource(164))
	for range 500 {
		g := built(t, randomParts(random, random.Intn(12))...)
		items := render.Items(g)
		var all []graph.Line
		for i, x := range items {
			all = append(all, x.Lines...)
			if !x.Block {
				wants(t, len(x.Lines), 1, "how many lines a solid one of %s is", told(items))
				wants(t, len(x.Middles), 0, "how many middles a solid line of %s has", told(items))
				continue
			}
			if len(x.Lines) < 2 || len(x.Middles) == 0 || x.Middles[0] < 1 || !slices.IsSorted(x.Middles) {
				t.Errorf("the block %v, whose middles are %v", x.Lines, x.Middles)
			}
			if i > 0 && items[i-1].Block {
				t.Errorf("%s has a block behind a block", told(items))
			}
		}
		wants(t, slices.Equal(all, aliveOf(g)), true, "that %s has all lines that are alive", told(items))
	}
}

// P16.4: where all lines that are alive are ordered there are no blocks, just their texts.
func TestOrderedLines(t *testing.T) {
	random := rand.New(rand.NewSource(165))
	for range 500 {
		g := graph.New()
		for range random.Intn(10) {
			p := randomPart(random, g, true)
			if c := g.Copy(); c.Add(p) == api.OK && allOrdered(c) {
				g = c
			}
		}
		items := render.Items(g)
		var texts []string
		for _, l := range aliveOf(g) {
			texts = append(texts, l.Text)
		}
		wants(t, slices.Equal(render.Text(items), texts), true, "that %s has just the texts", told(items))
		wants(t, render.Conflict(items), false, "Conflict of %s", told(items))
		wants(t, len(items), len(texts), "how many items %s is", told(items))
	}
}

// allOrdered reports whether all lines of g that are alive are ordered.
func allOrdered(g *graph.Graph) bool {
	l := aliveOf(g)
	for i, a := range l {
		for _, b := range l[:i] {
			if !ordered(g, a, b) {
				return false
			}
		}
	}
	return true
}

// Arguments are left as they are, even behind a list's length.
func TestArgumentsAreLeft(t *testing.T) {
	g := built(t, partP(), between(2, "x"), between(3, "y", at(1, 0)))
	was := g.Lines()
	first := render.Items(g)
	wants(t, slices.Equal(g.Lines(), was), true, "that the graph is left")
	wants(t, same(render.Items(g), first), true, "that the items stay")
	wants(t, g.Remove(patch(2), 0), api.OK, "Remove")
	wants(t, told(first), "[ x | y ] b", "what was returned, after Remove")

	middles := []int{2, -1, 1, 1, 9}
	items := []item{{Lines: some("a b c")[:2], Block: true, Middles: middles[:3]}, {Lines: some("d")}}
	render.Text(items[:1])
	render.Conflict(items[:1])
	wants(t, slices.Equal(middles, []int{2, -1, 1, 1, 9}), true, "that the middles are left")
	wants(t, slices.Equal(items[0].Lines[:3], some("a b c")), true, "that the lines are left")
	wants(t, told(items), "[ a | b ] d", "the items")
}

// What is returned shares no memory with an argument, with other results, or within itself.
func TestResultsAreNew(t *testing.T) {
	g := built(t, partP(), between(2, "x"), between(3, "y"), brings(4, at(1, 1), end, "c d"), brings(5, at(1, 1), end, "e"))
	first, second := render.Items(g), render.Items(g)
	texts := map[*byte]struct{}{}
	count := 0
	for _, x := range append(slices.Clone(first), second...) {
		for _, l := range x.Lines {
			texts[unsafe.StringData(l.Text)] = struct{}{}
			count++
		}
	}
	wants(t, len(texts), count, "how many strings there are")

	text := render.Text(first)
	wants(t, unsafe.StringData(text[0]) != unsafe.StringData(first[0].Lines[0].Text), true, "that a solid line's text is a string of its own")
	wants(t, unsafe.StringData(text[2]) != unsafe.StringData(first[1].Lines[0].Text), true, "that the text of a block's line is a string of its own")

	for i := range first {
		first[i].Lines = append(first[i].Lines, some("behind behind behind")...)
		first[i].Middles = append(first[i].Middles, 7)
		first[i].Lines[0] = graph.Line{Text: "over"}
		for _, l := range first[i+1:] {
			for _, x := range l.Lines {
				if x.Text == "over" || x.Text == "behind" {
					t.Fatalf("items share their lines: %s", told(first))
				}
			}
		}
	}
	wants(t, told(second), "a [ x | y ] b [ c d | e ]", "what was returned besides")
	wants(t, told(render.Items(g)), "a [ x | y ] b [ c d | e ]", "what is returned then")
}

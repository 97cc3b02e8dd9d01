package change_test

import (
	"math/rand"
	"slices"
	"strconv"
	"strings"
	"testing"

	"redwax/api"
	"redwax/change"
	"redwax/graph"
	"redwax/myers"
	"redwax/render"
)

type (
	part = graph.Part
	item = render.Item
	hunk = api.Change
)

// The vertices that every graph has, by the numbers that chapter 15 gives them.
var (
	root = api.Vertex{N: -1}
	end  = api.Vertex{N: -2}
)

// file is the file whose hunks are asked for.
var file = api.Vertex{Patch: api.Hash{5: 3}, N: 7}

// patch is the hash of patch n, greater for greater ones.
func patch(n int) api.Hash {
	return api.Hash{7: byte(n >> 8), 31: byte(n)}
}

// at is the vertex of patch p with the number n.
func at(p, n int) api.Vertex {
	return api.Vertex{Patch: patch(p), N: n}
}

// brings is a part of patch p, At 0 and First 0, with the lines that are written with spaces between.
func brings(p int, up, down api.Vertex, lines string, gone ...api.Vertex) part {
	return part{Patch: patch(p), Up: up, Down: down, Lines: strings.Fields(lines), Gone: gone}
}

// built is the graph of some parts.
func built(t *testing.T, parts ...part) *graph.Graph {
	t.Helper()
	g := graph.New()
	for _, p := range parts {
		if errno := g.Add(p); errno != api.OK {
			t.Fatalf("Add of %v: %d", p, errno)
		}
	}
	return g
}

// abc is the graph of the chapter's examples: a b c of patch 1, with the numbers 1, 2, 3.
func abc(t *testing.T, more ...part) *graph.Graph {
	t.Helper()
	p := brings(1, root, end, "a b c")
	p.First = 1
	return built(t, append([]part{p}, more...)...)
}

// list is the lines that are written with spaces between; [ | ] are the markers.
func list(text string) []string {
	l := strings.Fields(text)
	for i, s := range l {
		switch s {
		case "[":
			l[i] = ">>>>>>>"
		case "|":
			l[i] = "======="
		case "]":
			l[i] = "<<<<<<<"
		}
	}
	return l
}

// wants fails the test if got is not what is wanted.
func wants[T comparable](t *testing.T, got, want T, format string, args ...any) {
	t.Helper()
	if got != want {
		t.Errorf(format+": %v, not %v", append(args, got, want)...)
	}
}

// name is how a vertex of a graph is written: its text, or Root or End.
func name(g *graph.Graph, v api.Vertex) string {
	switch v {
	case root:
		return "Root"
	case end:
		return "End"
	}
	for _, l := range g.Lines() {
		if l.Vertex == v {
			return l.Text
		}
	}
	return "?"
}

// told is how hunks are written, such as: a..c -b +x +y; Root..End +z
func told(g *graph.Graph, hunks []hunk) string {
	var all []string
	for _, h := range hunks {
		words := name(g, h.Up) + ".." + name(g, h.Down)
		for _, v := range h.Gone {
			words += " -" + name(g, v)
		}
		for _, s := range h.Lines {
			words += " +" + s
		}
		all = append(all, words)
	}
	return strings.Join(all, "; ")
}

// equal reports whether two lists have the same hunks.
func equal(a, b []hunk) bool {
	return slices.EqualFunc(a, b, func(x, y hunk) bool {
		return x.Kind == y.Kind && x.File == y.File && x.Path == y.Path && x.Label == y.Label && x.Up == y.Up && x.Down == y.Down &&
			slices.Equal(x.Gone, y.Gone) && slices.Equal(x.Lines, y.Lines)
	})
}

// textOf is the rendered lines of a graph.
func textOf(g *graph.Graph) []string {
	return render.Text(render.Items(g))
}

// piece is an item, or a wanted line that is free, or a step over a recognized block: what a file's
// scripts tell, in one row, so that Up and Down are found by looking to both sides.
type piece struct {
	op   int // of myers; a recognized block is kept
	item *item
	free string
}

// found is a recognized block: which item it is, and where its lines are among the wanted ones.
type found struct {
	item, from, to int
}

// recognizedIn are the recognized blocks, by the words.
func recognizedIn(items []item, wanted []string) []found {
	var blocks []found
	last := -1
search:
	for i := 0; i < len(wanted); {
		for k := last + 1; k < len(items); k++ {
			text := strings.Join(render.Text(items[k:k+1]), "\n") + "\n"
			rest := strings.Join(wanted[i:], "\n") + "\n"
			if items[k].Block && strings.HasPrefix(rest, text) {
				count := strings.Count(text, "\n")
				blocks = append(blocks, found{k, i, i + count})
				last = k
				i += count
				continue search
			}
		}
		i++
	}
	return blocks
}

// freeIn are the free ones of the wanted lines.
func freeIn(items []item, wanted []string) []string {
	var free []string
	blocks := recognizedIn(items, wanted)
	for i, s := range wanted {
		if !slices.ContainsFunc(blocks, func(b found) bool { return b.from <= i && i < b.to }) {
			free = append(free, s)
		}
	}
	return free
}

// piecesOf is the row of the scripts of all sections, by the words.
func piecesOf(items []item, wanted []string) ([]piece, api.Errno) {
	var row []piece
	behind := found{item: -1}
	for _, b := range append(recognizedIn(items, wanted), found{len(items), len(wanted), 0}) {
		section, free := items[behind.item+1:b.item], wanted[behind.to:b.from]
		var texts []string
		for _, x := range section {
			text := x.Lines[0].Text
			if x.Block {
				text = "\n" // no line
			}
			texts = append(texts, text)
		}
		script, errno := myers.Diff(texts, free)
		if errno != api.OK {
			return nil, errno
		}
		for _, s := range script {
			if s.Op == myers.New {
				row = append(row, piece{op: s.Op, free: free[s.B]})
			} else {
				row = append(row, piece{op: s.Op, item: &section[s.A]})
			}
		}
		if b.item < len(items) {
			row = append(row, piece{op: myers.Keep, item: &items[b.item]})
		}
		behind = b
	}
	return row, api.OK
}

// hunksOf is P17.1's Hunks, by the words.
func hunksOf(file api.Vertex, g *graph.Graph, wanted []string) ([]hunk, api.Errno) {
	items := render.Items(g)
	free := freeIn(items, wanted)
	switch {
	case len(free) > 256:
		return nil, api.ErrLong
	case slices.ContainsFunc(free, func(s string) bool { return !isLine(s) }):
		return nil, api.ErrForm
	}
	row, errno := piecesOf(items, wanted)
	if errno != api.OK {
		return nil, errno
	}
	var hunks []hunk
	for i, p := range row {
		if p.op == myers.Keep || i > 0 && row[i-1].op != myers.Keep {
			continue
		}
		h := hunk{Kind: 5, File: file, Up: root, Down: end}
		for _, before := range row[:i] {
			if before.op == myers.Keep && !before.item.Block {
				h.Up = before.item.Lines[0].Vertex
			}
		}
		j := i
		for ; j < len(row) && row[j].op != myers.Keep; j++ {
			if row[j].op == myers.New {
				h.Lines = append(h.Lines, row[j].free)
				continue
			}
			for _, l := range row[j].item.Lines {
				h.Gone = append(h.Gone, l.Vertex)
			}
		}
		for _, behind := range slices.Backward(row[j:]) {
			if behind.op == myers.Keep && !behind.item.Block {
				h.Down = behind.item.Lines[0].Vertex
			}
		}
		slices.SortFunc(h.Gone, graph.Order)
		hunks = append(hunks, h)
	}
	return hunks, api.OK
}

// isLine is chapter 13's: at most 80 bytes, tabs or from 32 to 126, and no marker.
func isLine(s string) bool {
	for _, b := range []byte(s) {
		if b != 9 && (b < 32 || b > 126) {
			return false
		}
	}
	return len(s) <= 80 && s != ">>>>>>>" && s != "=======" && s != "<<<<<<<"
}

// is checks Hunks of g and the wanted lines, and returns the hunks.
func is(t *testing.T, g *graph.Graph, wanted []string) ([]hunk, api.Errno) {
	t.Helper()
	got, errno := change.Hunks(file, g, wanted)
	want, wantErrno := hunksOf(file, g, wanted)
	if errno != wantErrno || !equal(got, want) {
		t.Fatalf("%q into %q: %s, %d, not %s, %d", textOf(g), wanted, told(g, got), errno, told(g, want), wantErrno)
	}
	return got, errno
}

// added is a copy of g with the hunks as parts of one patch that is not in it.
func added(t *testing.T, g *graph.Graph, hunks []hunk) *graph.Graph {
	t.Helper()
	c := g.Copy()
	if c == nil {
		c = graph.New()
	}
	first := 0
	for i, h := range hunks {
		p := part{Patch: patch(60000), At: i, First: first, Up: h.Up, Down: h.Down, Lines: h.Lines, Gone: h.Gone}
		if errno := c.Add(p); errno != api.OK {
			t.Fatalf("Add of %s to %q: %d", told(g, hunks[i:i+1]), textOf(g), errno)
		}
		first += len(h.Lines)
	}
	return c
}

// randomPart is a part that can be added to g, of one patch of many. There are few texts, so that many
// lines, and some blocks, are told alike.
func randomPart(random *rand.Rand, g *graph.Graph, rare bool) part {
	vertices := []api.Vertex{root, end}
	for _, l := range g.Lines() {
		vertices = append(vertices, l.Vertex)
	}
	pick := func() api.Vertex { return vertices[random.Intn(len(vertices))] }
	for {
		p := part{Patch: patch(1 + random.Intn(500)), At: random.Intn(100), First: random.Intn(100), Up: pick(), Down: pick()}
		if g.Before(p.Down, p.Up) {
			p.Up, p.Down = p.Down, p.Up
		}
		for range random.Intn(4) {
			p.Lines = append(p.Lines, strconv.Itoa(random.Intn(4)))
		}
		for range random.Intn(3) {
			if v := pick(); v.N >= 0 && !slices.Contains(p.Gone, v) && (!rare || random.Intn(4) == 0) {
				p.Gone = append(p.Gone, v)
			}
		}
		if g.Copy().Add(p) == api.OK {
			return p
		}
	}
}

// randomGraph is a graph of so many parts.
func randomGraph(random *rand.Rand, n int) *graph.Graph {
	g := graph.New()
	rare := random.Intn(3) > 0
	for range n {
		g.Add(randomPart(random, g, rare))
	}
	return g
}

// blocky is a graph of some solid lines with blocks of two or three short texts between.
func blocky(random *rand.Rand, t *testing.T) *graph.Graph {
	n := 1 + random.Intn(5)
	first := part{Patch: patch(1), Up: root, Down: end}
	for range n {
		first.Lines = append(first.Lines, strconv.Itoa(random.Intn(3)))
	}
	parts := []part{first}
	for i := range n + 1 {
		up, down := at(1, i-1), at(1, i)
		if i == 0 {
			up = root
		}
		if i == n {
			down = end
		}
		for range random.Intn(4) {
			texts := []string{"x", "y", "x y", "0"}
			parts = append(parts, brings(2+len(parts), up, down, texts[random.Intn(len(texts))]))
		}
	}
	// Where lines between two blocks are gone, the blocks' lines are ordered all the same.
	for i := range n {
		if random.Intn(4) == 0 {
			parts = append(parts, brings(2+len(parts), root, end, "", at(1, i)))
		}
	}
	return built(t, parts...)
}

// edited is wanted lines that are like those of g, with some lines and blocks moved, lost, told twice
// or changed.
func edited(random *rand.Rand, g *graph.Graph) []string {
	var pieces [][]string
	for _, x := range render.Items(g) {
		pieces = append(pieces, render.Text([]item{x}))
	}
	for range random.Intn(5) {
		i := 0
		if len(pieces) > 0 {
			i = random.Intn(len(pieces))
		}
		switch kind := random.Intn(6); {
		case kind == 0 || len(pieces) == 0:
			pieces = slices.Insert(pieces, i, []string{strconv.Itoa(random.Intn(5))})
		case kind == 1:
			pieces = slices.Delete(pieces, i, i+1)
		case kind == 2:
			pieces = slices.Insert(pieces, random.Intn(len(pieces)+1), pieces[i])
		case kind == 3:
			j := random.Intn(len(pieces))
			pieces[i], pieces[j] = pieces[j], pieces[i]
		case kind == 4:
			pieces[i] = []string{"x"}
		case random.Intn(3) == 0 && len(pieces[i]) > 0:
			j := random.Intn(len(pieces[i]))
			pieces[i] = slices.Delete(slices.Clone(pieces[i]), j, j+1)
		}
	}
	return slices.Concat(pieces...)
}

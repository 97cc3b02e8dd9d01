package render_test

import (
	"math"
	"math/rand"
	"slices"
	"strconv"
	"strings"
	"testing"

	"redwax/graph"
	"redwax/render"
)

// some are lines with the texts that are written with spaces between.
func some(texts string) []graph.Line {
	var l []graph.Line
	for i, text := range strings.Fields(texts) {
		l = append(l, graph.Line{Vertex: at(1, i), Text: text, Alive: true})
	}
	return l
}

// P16.2: any items, whatever their Middles are.
func TestText(t *testing.T) {
	const begin, middle, close = " >>>>>>> ", " ======= ", " <<<<<<< "
	dead := []graph.Line{{Text: "a"}, {Vertex: end, Text: "b"}}
	for _, x := range []struct {
		name  string
		items []item
		want  string
	}{
		{"no items", nil, ""},
		{"an item without lines", []item{{}}, ""},
		{"items without lines that have middles", []item{{Middles: []int{0, 1}}, {}}, ""},
		{"a line", []item{{Lines: some("a")}}, "a"},
		{"many lines, no block", []item{{Lines: some("a b c d")}}, "a b c d"},
		{"no block, but middles", []item{{Lines: some("a b c"), Middles: []int{0, 1, 2, 3}}}, "a b c"},
		{"lines that are not alive", []item{{Lines: dead}, {Lines: dead, Block: true, Middles: []int{1}}}, "a b" + begin + "a" + middle + "b" + close},
		{"a block without lines", []item{{Block: true}}, begin + close},
		{"a block without lines that has middles", []item{{Block: true, Middles: []int{0, 1, -1}}}, begin + close},
		{"a block of one line", []item{{Lines: some("a"), Block: true}}, begin + "a" + close},
		{"a block without middles", []item{{Lines: some("a b c"), Block: true}}, begin + "a b c" + close},
		{"a middle", []item{{Lines: some("a b c"), Block: true, Middles: []int{1}}}, begin + "a" + middle + "b c" + close},
		{"a middle ahead of the last line", []item{{Lines: some("a b c"), Block: true, Middles: []int{2}}}, begin + "a b" + middle + "c" + close},
		{"a middle ahead of the first line", []item{{Lines: some("a b"), Block: true, Middles: []int{0}}}, begin + middle + "a b" + close},
		{"all middles", []item{{Lines: some("a b c"), Block: true, Middles: []int{1, 2}}}, begin + "a" + middle + "b" + middle + "c" + close},
		{"middles that fall", []item{{Lines: some("a b c"), Block: true, Middles: []int{2, 1}}}, begin + "a" + middle + "b" + middle + "c" + close},
		{"middles that come again", []item{{Lines: some("a b c"), Block: true, Middles: []int{1, 2, 1, 1, 2}}}, begin + "a" + middle + "b" + middle + "c" + close},
		{"a middle behind all lines", []item{{Lines: some("a b c"), Block: true, Middles: []int{3}}}, begin + "a b c" + close},
		{"middles where no lines are", []item{{Lines: some("a b c"), Block: true, Middles: []int{math.MinInt, -1, -2, 3, 4, math.MaxInt, 1}}}, begin + "a" + middle + "b c" + close},
		{"block by block", []item{{Lines: some("a"), Block: true}, {Lines: some("b c"), Block: true, Middles: []int{1}}}, begin + "a" + close + begin + "b" + middle + "c" + close},
		{"markers as texts", []item{{Lines: some("======= a"), Block: true, Middles: []int{1}}, {Lines: some("<<<<<<<")}}, begin + "=======" + middle + "a" + close + "<<<<<<<"},
		{"all of it", []item{{Lines: some("a")}, {Lines: some("x1 x2 y"), Block: true, Middles: []int{2}}, {}, {Lines: some("b")}}, "a" + begin + "x1 x2" + middle + "y" + close + "b"},
	} {
		got := render.Text(x.items)
		wants(t, strings.Join(got, " "), strings.Join(strings.Fields(x.want), " "), "text of %s", x.name)
		wants(t, slices.Equal(got, textOf(x.items)), true, "that the text of %s is that of the words", x.name)
	}
}

// P16.2: texts are told as they are.
func TestTextsAreTold(t *testing.T) {
	texts := []string{"", "a\nb", "\xff\x00", " ", strings.Repeat("x", 5000)}
	var items []item
	for _, text := range texts {
		items = append(items, item{Lines: []graph.Line{{Text: text}}})
	}
	wants(t, slices.Equal(render.Text(items), texts), true, "that the texts are told")
}

// P16.2: random items, held against the words.
func TestRandomItems(t *testing.T) {
	random := rand.New(rand.NewSource(163))
	for range 2000 {
		items := make([]item, random.Intn(4))
		for i := range items {
			x := &items[i]
			x.Block = random.Intn(3) > 0
			for n := range random.Intn(5) {
				x.Lines = append(x.Lines, graph.Line{Text: strconv.Itoa(n), Alive: random.Intn(2) == 0})
			}
			for range random.Intn(5) {
				x.Middles = append(x.Middles, random.Intn(8)-2)
			}
		}
		if got, want := render.Text(items), textOf(items); !slices.Equal(got, want) {
			t.Fatalf("text of %v: %q, not %q", items, got, want)
		}
		isBlock := func(x item) bool { return x.Block }
		wants(t, render.Conflict(items), slices.IndexFunc(items, isBlock) >= 0, "Conflict of %v", items)
	}
}

// P16.2: a block is what says that it is one, whatever lines and middles it has.
func TestConflict(t *testing.T) {
	solid := item{Lines: some("a b"), Middles: []int{1}}
	marker := item{Lines: some(">>>>>>>")}
	for _, x := range []struct {
		items []item
		want  bool
	}{
		{nil, false},
		{[]item{{}}, false},
		{[]item{solid, marker, solid}, false},
		{[]item{{Block: true}}, true},
		{[]item{{Block: true}, solid, solid}, true},
		{[]item{solid, {Lines: some("a"), Block: true}, solid}, true},
		{[]item{solid, marker, {Lines: some("a b"), Block: true, Middles: []int{1}}}, true},
	} {
		wants(t, render.Conflict(x.items), x.want, "Conflict of %v", x.items)
	}
}

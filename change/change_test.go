package change_test

import (
	"math/rand"
	"slices"
	"strconv"
	"strings"
	"testing"
	"time"

	"redwax/api"
	"redwax/change"
	"redwax/graph"
)

// gives checks the hunks of g and the wanted lines, as they are written.
func gives(t *testing.T, g *graph.Graph, wanted, want string) {
	t.Helper()
	got, errno := is(t, g, list(wanted))
	wants(t, errno, api.OK, "%q into %s", textOf(g), wanted)
	wants(t, told(g, got), want, "%q into %s", textOf(g), wanted)
	added(t, g, got)
}

// fails checks the error of g and the wanted lines.
func fails(t *testing.T, g *graph.Graph, wanted []string, want api.Errno) {
	t.Helper()
	got, errno := is(t, g, wanted)
	wants(t, errno, want, "the error of %.99q", wanted)
	wants(t, len(got), 0, "how many hunks stand beside the error of %.99q", wanted)
}

// P17.1: the chapter's examples.
func TestExamples(t *testing.T) {
	g := abc(t)
	gives(t, g, "a b c", "")
	gives(t, g, "a x b c", "a..b +x")
	gives(t, g, "a c", "a..c -b")
	gives(t, g, "x", "Root..End -a -b -c +x")
	fails(t, g, list("a |"), api.ErrForm)
	hunks, errno := change.Hunks(file, g, list("a x c"))
	want := []hunk{{Kind: api.CHunk, File: file, Up: at(1, 1), Down: at(1, 3), Gone: []api.Vertex{at(1, 2)}, Lines: []string{"x"}}}
	wants(t, errno, api.OK, "a x c")
	wants(t, equal(hunks, want), true, "a x c, with all fields")
}

// P17.1: runs at the front, at the end and between, each with what goes and what comes.
func TestRuns(t *testing.T) {
	g := abc(t)
	gives(t, g, "", "Root..End -a -b -c")
	gives(t, g, "x a b c", "Root..a +x")
	gives(t, g, "a b c x y", "c..End +x +y")
	gives(t, g, "x b y", "Root..b -a +x; b..End -c +y")
	gives(t, g, "x a y b z c w", "Root..a +x; a..b +y; b..c +z; c..End +w")
	gives(t, g, "b", "Root..b -a; b..End -c")
	gives(t, g, "a a b b c c", "a..b +a; b..c +b; c..End +c")
	gives(t, g, "c b a", "Root..c -a -b; c..End +b +a")
	gives(t, nil, "", "")
	gives(t, nil, "x y", "Root..End +x +y")
	gives(t, graph.New(), "x", "Root..End +x")
	gives(t, &graph.Graph{}, "x", "Root..End +x")
}

// P17.1: lines that are gone, though they are vertices, are none of the items.
func TestGoneLines(t *testing.T) {
	g := abc(t, brings(2, at(1, 1), at(1, 3), "x", at(1, 2)))
	gives(t, g, "a x c", "")
	gives(t, g, "a b c", "a..c -x +b")
	gives(t, g, "a x", "x..End -c")
	gives(t, abc(t, brings(2, root, end, "", at(1, 1), at(1, 2), at(1, 3))), "a", "Root..End +a")
}

// P17.1: Gone is ascending by the vertices, not by the lines' order.
func TestGoneIsAscending(t *testing.T) {
	g := built(t, brings(5, root, end, "a b c"), brings(3, at(5, 0), at(5, 1), "x y"), brings(4, at(5, 1), at(5, 2), "z"),
		brings(2, at(5, 2), end, "p"), brings(1, at(5, 2), end, "q"))
	gives(t, g, "", "Root..End -q -p -x -y -z -a -b -c")
	gives(t, g, "a z c", "a..z -x -y -b; c..End -q -p")
	gives(t, g, "a", "a..End -q -p -x -y -z -b -c")
}

// fork is a b c with the block x | y between a and b, and the block x | y between b and c.
func fork(t *testing.T) *graph.Graph {
	return abc(t, brings(2, at(1, 1), at(1, 2), "x"), brings(3, at(1, 1), at(1, 2), "y"),
		brings(4, at(1, 2), at(1, 3), "x"), brings(5, at(1, 2), at(1, 3), "y"))
}

// P17.1: blocks that are recognized are kept, and are nothing that a hunk stands beside.
func TestRecognizedBlocks(t *testing.T) {
	g := fork(t)
	gives(t, g, "a [ x | y ] b [ x | y ] c", "")
	gives(t, g, "a p [ x | y ] q b [ x | y ] c", "a..b +p; a..b +q")
	gives(t, g, "p [ x | y ] q [ x | y ] r", "Root..End -a +p; Root..End -b +q; Root..End -c +r")
	gives(t, g, "[ x | y ] b [ x | y ]", "Root..b -a; b..End -c")
	gives(t, g, "a [ x | y ] [ x | y ] c", "a..c -b")
	gives(t, g, "p a [ x | y ] b q [ x | y ] c r", "Root..a +p; b..c +q; c..End +r")
	two := abc(t, brings(2, root, at(1, 1), "p"), brings(3, root, at(1, 1), "q"), brings(4, at(1, 3), end, "r"), brings(5, at(1, 3), end, "s"))
	gives(t, two, "x [ p | q ] y a b c z [ r | s ] w", "Root..a +x; Root..a +y; c..End +z; c..End +w")
	gives(t, two, "a b c [ r | s ]", "Root..a -p -q")
}

// P17.1: the first such block is recognized, after the one that was recognized last.
func TestWhichBlockIsRecognized(t *testing.T) {
	g := fork(t)
	gives(t, g, "a [ x | y ] b c", "b..c -x -y")
	gives(t, g, "a b [ x | y ] c", "a..c +b; a..c -b -x -y")
	fails(t, g, list("a [ x | y ] b [ x | y ] c [ x | y ]"), api.ErrForm)
	other := abc(t, brings(2, at(1, 1), at(1, 2), "x"), brings(3, at(1, 1), at(1, 2), "y"),
		brings(4, at(1, 2), at(1, 3), "z"), brings(5, at(1, 2), at(1, 3), "w"))
	gives(t, other, "a b [ z | w ] c", "a..b -x -y")
	gives(t, other, "a [ x | y ] b c", "b..c -z -w")
	gives(t, other, "a [ x | y ] [ z | w ]", "a..End -b; a..End -c")
	fails(t, other, list("a [ z | w ] b [ x | y ] c"), api.ErrForm)
}

// P17.1: a block that is not told as it is rendered goes, and its markers are no lines.
func TestBlocksThatAreNotRecognized(t *testing.T) {
	g := abc(t, brings(2, at(1, 1), at(1, 2), "x"), brings(3, at(1, 1), at(1, 2), "y z"))
	gives(t, g, "a x y z b c", "a..b -x -y -z +x +y +z")
	gives(t, g, "a b c", "a..b -x -y -z")
	gives(t, g, "a x c", "a..c -b -x -y -z +x")
	for _, wanted := range []string{"a [ x | y ] b c", "a [ y z | x ] b c", "a [ x y z ] b c", "a [ x | y z", "a x | y z ] b c",
		"a [ [ x | y z ] b c", "a [ x | y z ] ] b c", "a [ x | | y z ] b c", "[", "a b c |"} {
		fails(t, g, list(wanted), api.ErrForm)
	}
	gives(t, g, "a [ x | y z ] b c", "")
}

// P17.1: texts of the graph that are markers, or no lines at all, are never kept by free lines.
func TestTextsThatAreNoLines(t *testing.T) {
	for _, text := range []string{">>>>>>>", "=======", "<<<<<<<", "\n", "\x00", strings.Repeat("a", 81), "ä"} {
		p := brings(1, root, end, "a b")
		p.Lines = append(p.Lines, text, "c")
		g := built(t, p)
		gives(t, g, "a b c", "b..c -"+text)
		fails(t, g, []string{"a", "b", text, "c"}, api.ErrForm)
	}
	g := built(t, brings(1, root, end, "p"), part{Patch: patch(2), Up: root, Down: end, Lines: []string{">>>>>>>"}})
	gives(t, g, "[ p | [ ]", "")
	gives(t, g, "x [ p | [ ] y", "Root..End +x; Root..End +y")
	gives(t, g, "x", "Root..End -p ->>>>>>> +x")
}

// P17.1: each byte in a free line, and each length at the limit.
func TestFreeLines(t *testing.T) {
	g := abc(t)
	for b := range 256 {
		is(t, g, []string{"a", "b" + string([]byte{byte(b)}), "c"})
	}
	for n := 78; n < 84; n++ {
		is(t, g, []string{strings.Repeat("x", n), "a"})
	}
	for _, s := range []string{">>>>>>> ", ">>>>>>", "========", "======= =", "<<<<<<<<", "", "\t"} {
		_, errno := is(t, g, []string{"a", s, "b", "c"})
		wants(t, errno, api.OK, "%q", s)
	}
}

// P17.1: 256 free lines, and one more, of which none is a line; those of recognized blocks don't count.
func TestTooManyFreeLines(t *testing.T) {
	g := fork(t)
	block := list("[ x | y ]")
	for _, n := range []int{0, 255, 256, 257, 1000} {
		for _, text := range []string{"x", "="} {
			free := slices.Repeat([]string{text}, n)
			want := api.OK
			if n > 256 {
				want = api.ErrLong
			}
			for _, cut := range []int{0, n / 2, n} {
				_, errno := is(t, g, slices.Concat(free[:cut], block, free[cut:]))
				wants(t, errno, want, "%d free lines", n)
				_, errno = is(t, g, slices.Concat(block, free[:cut], block, free[cut:]))
				wants(t, errno, want, "%d free lines with two blocks", n)
			}
		}
	}
	marked := slices.Repeat(list("|"), 256)
	fails(t, g, marked, api.ErrForm)
	fails(t, g, append(marked, "x"), api.ErrLong)
	fails(t, g, append(slices.Repeat(list("x"), 255), block[0]), api.ErrForm)
	fails(t, g, append(slices.Repeat(list("x"), 256), block[0]), api.ErrLong)
}

// long is a graph of n lines.
func long(t *testing.T, n int, more ...part) *graph.Graph {
	t.Helper()
	p := part{Patch: patch(1), Up: root, Down: end}
	for i := range n {
		p.Lines = append(p.Lines, strconv.Itoa(i))
	}
	return built(t, append([]part{p}, more...)...)
}

// P17.1: a section of 1024 items, and of one more; the free lines' errors come first.
func TestTooManyItems(t *testing.T) {
	for _, n := range []int{1023, 1024, 1025, 3000} {
		g := long(t, n)
		want := api.OK
		if n > 1024 {
			want = api.ErrLong
		}
		for _, wanted := range [][]string{nil, {"0"}, {"0", "x", "1022"}} {
			_, errno := is(t, g, wanted)
			wants(t, errno, want, "%d items into %q", n, wanted)
		}
		fails(t, g, []string{"0", "=" + "======"}, api.ErrForm)
		fails(t, g, slices.Repeat([]string{"0"}, 257), api.ErrLong)
	}
	for _, at2 := range []int{1000, 1023, 1024} {
		block := []part{brings(2, at(1, at2-1), at(1, at2), "x"), brings(3, at(1, at2-1), at(1, at2), "y")}
		for _, n := range []int{at2 + 1023, at2 + 1024, at2 + 1025} {
			g := long(t, n, block...)
			want := api.OK
			if n > at2+1024 {
				want = api.ErrLong
			}
			hunks, errno := is(t, g, list("5 [ x | y ] z"))
			wants(t, errno, want, "two sections, of %d and %d items", at2, n-at2)
			if errno == api.OK {
				added(t, g, hunks)
			}
			fails(t, g, list("5 z"), api.ErrLong)
		}
	}
	wide := []part{brings(2, at(1, 9), at(1, 10), strings.Repeat("x ", 2000)), brings(3, at(1, 9), at(1, 10), "y")}
	hunks, errno := is(t, long(t, 1023, wide...), list("9 z 10"))
	wants(t, errno, api.OK, "1023 lines and a block of many lines")
	wants(t, len(hunks), 3, "how many hunks those are")
	wants(t, len(hunks[1].Gone), 2001, "how many lines of the block go")
	fails(t, long(t, 1024, wide...), list("9 z 10"), api.ErrLong)
}

// P17.1: all wanted lines of up to 5 words, against the words.
func TestAllShortWanted(t *testing.T) {
	graphs := []*graph.Graph{nil, abc(t), fork(t), abc(t, brings(2, root, end, "x")), built(t, brings(1, root, end, "x"), brings(2, root, end, "y"))}
	words := []string{"a", "b", "x", "[ x | y ]", "["}
	for _, g := range graphs {
		var try func(wanted []string, room int)
		try = func(wanted []string, room int) {
			hunks, errno := is(t, g, wanted)
			if errno == api.OK {
				added(t, g, hunks)
			}
			for _, w := range words {
				if room > 0 {
					try(append(slices.Clip(wanted), list(w)...), room-1)
				}
			}
		}
		try(nil, 5)
	}
}

// P17.1: random graphs, and wanted lines that are near to theirs, against the words.
func TestRandom(t *testing.T) {
	random := rand.New(rand.NewSource(171))
	recognized := 0
	for range 3000 {
		g := randomGraph(random, random.Intn(10))
		if random.Intn(2) == 0 {
			g = blocky(random, t)
		}
		for range 4 {
			wanted := edited(random, g)
			hunks, errno := is(t, g, wanted)
			if errno == api.OK {
				added(t, g, hunks)
				if slices.Contains(wanted, ">>>>>>>") && len(hunks) > 1 {
					recognized++
				}
			}
		}
	}
	if recognized < 500 {
		t.Errorf("just %d had a recognized block and hunks", recognized)
	}
}

// Many wanted lines, many blocks, and blocks that almost occur end soon.
func TestGreatInputs(t *testing.T) {
	began := time.Now()
	p := long(t, 3000).Lines()
	parts := []part{}
	for i := range len(p) - 1 {
		if i%2 == 0 {
			parts = append(parts, brings(2+2*i, at(1, i), at(1, i+1), "x"), brings(3+2*i, at(1, i), at(1, i+1), "y"))
		}
	}
	g := long(t, 3000, parts...)
	wanted := textOf(g)
	var blocks []string
	for range 1500 {
		blocks = append(blocks, list("[ x | y ]")...)
	}
	hunks, errno := change.Hunks(file, g, blocks)
	wants(t, errno, api.OK, "1500 blocks")
	wants(t, len(hunks), 1501, "how many hunks the lines between are")
	_, errno = change.Hunks(file, g, wanted)
	wants(t, errno, api.ErrLong, "3000 free lines")
	_, errno = change.Hunks(file, g, slices.Repeat(list("[ x |"), 2000000))
	wants(t, errno, api.ErrLong, "many free lines")
	if d := time.Since(began); d > 20*time.Second {
		t.Errorf("it took %v", d)
	}
}

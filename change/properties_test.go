package change_test

import (
	"math/rand"
	"slices"
	"strings"
	"testing"
	"unsafe"

	"redwax/api"
	"redwax/change"
	"redwax/graph"
	"redwax/render"
)

// P17.2: the rendered lines of a graph need no hunks.
func TestNothingToDo(t *testing.T) {
	random := rand.New(rand.NewSource(172))
	for range 2000 {
		g := blocky(random, t)
		if random.Intn(2) == 0 {
			g = randomGraph(random, random.Intn(12))
		}
		hunks, errno := change.Hunks(file, g, textOf(g))
		wants(t, errno, api.OK, "%q", textOf(g))
		wants(t, told(g, hunks), "", "%q", textOf(g))
	}
	_, errno := change.Hunks(file, long(t, 256), textOf(long(t, 256)))
	wants(t, errno, api.OK, "256 lines")
	_, errno = change.Hunks(file, long(t, 257), textOf(long(t, 257)))
	wants(t, errno, api.ErrLong, "257 lines")
}

// P17.3: if no block is recognized, the hunks make the wanted lines, and no block is left.
func TestTheResult(t *testing.T) {
	random := rand.New(rand.NewSource(173))
	for range 2000 {
		g := blocky(random, t)
		if random.Intn(2) == 0 {
			g = randomGraph(random, random.Intn(12))
		}
		wanted := slices.DeleteFunc(edited(random, g), func(s string) bool {
			return strings.Contains(">>>>>>> ======= <<<<<<<", s) && len(s) == 7 || random.Intn(5) == 0
		})
		hunks, errno := change.Hunks(file, g, wanted)
		wants(t, errno, api.OK, "%q into %q", textOf(g), wanted)
		c := added(t, g, hunks)
		wants(t, render.Conflict(render.Items(c)), false, "a block of %q, which was %q", textOf(c), textOf(g))
		wants(t, strings.Join(textOf(c), "\n"), strings.Join(wanted, "\n"), "what %q has become", textOf(g))
	}
}

// P17.4: whatever is wanted, the hunks can be added, and what is left alone stays.
func TestTheyCanBeAdded(t *testing.T) {
	random := rand.New(rand.NewSource(174))
	for range 2000 {
		g := blocky(random, t)
		was := aliveIn(g)
		hunks, errno := change.Hunks(file, g, edited(random, g))
		if errno != api.OK {
			continue
		}
		now := aliveIn(added(t, g, hunks))
		for _, h := range hunks {
			for _, v := range h.Gone {
				delete(was, v)
			}
		}
		for v := range was {
			if _, there := now[v]; !there {
				t.Fatalf("%v is not alive any more", v)
			}
		}
	}
}

// aliveIn are the lines of a graph that are alive.
func aliveIn(g *graph.Graph) map[api.Vertex]int {
	alive := map[api.Vertex]int{}
	for i, l := range g.Lines() {
		if l.Alive {
			alive[l.Vertex] = i
		}
	}
	return alive
}

// P17.5: arguments are left as they are, even behind a list's length.
func TestArgumentsAreLeft(t *testing.T) {
	g := fork(t)
	was := g.Lines()
	all := list("p a [ x | y ] q b z c behind")
	wanted := all[:len(all)-1]
	before := slices.Clone(all)
	hunks, errno := change.Hunks(file, g, wanted)
	wants(t, errno, api.OK, "Hunks")
	wants(t, slices.Equal(all, before), true, "that the wanted lines are left")
	wants(t, slices.Equal(g.Lines(), was), true, "that the graph is left")
	text := told(g, hunks)
	clear(all)
	c := added(t, g, hunks)
	wants(t, told(g, hunks), text, "the hunks, after the wanted lines have changed")
	wants(t, c.Has(at(60000, 0)), true, "that a part was added")
	again, _ := change.Hunks(file, g, before[:len(before)-1])
	wants(t, equal(again, hunks), true, "that the same hunks come again")
}

// P17.5: what is returned shares no memory with an argument, or within itself.
func TestResultsAreNew(t *testing.T) {
	g := fork(t)
	x := strings.Clone("pp")
	wanted := []string{x, "a", x, x, "c", x}
	hunks, errno := change.Hunks(file, g, wanted)
	wants(t, errno, api.OK, "Hunks")
	wants(t, told(g, hunks), "Root..a +pp; a..c -b -x -y -x -y +pp +pp; c..End +pp", "the hunks")
	texts := map[*byte]int{unsafe.StringData(x): 0}
	for _, h := range hunks {
		for _, s := range h.Lines {
			texts[unsafe.StringData(s)]++
		}
	}
	wants(t, len(texts), 5, "how many strings there are")
	for i := range hunks {
		_ = append(hunks[i].Lines, "over", "over")
		_ = append(hunks[i].Gone, file, file)
	}
	want, _ := hunksOf(file, g, wanted)
	wants(t, equal(hunks, want), true, "that no list is behind another one")
	hunks[1].Lines[0], hunks[1].Gone[0] = "over", file
	again, _ := change.Hunks(file, g, wanted)
	wants(t, equal(again, want), true, "that the same hunks come again")
}

// P17.5: wrong arguments, of whatever kind, don't make it panic, and the file is just told.
func TestAnyArguments(t *testing.T) {
	for _, f := range []api.Vertex{{}, root, end, {Patch: patch(9), N: -77}, at(1, 1), {N: 1 << 62}} {
		for _, g := range []*graph.Graph{nil, {}, graph.New(), abc(t), fork(t)} {
			copied := (*graph.Graph)(nil)
			if g != nil {
				assigned := *g // neither New nor Copy returned it
				copied = &assigned
			}
			for _, h := range []*graph.Graph{g, copied} {
				for _, wanted := range [][]string{nil, {}, {""}, {"\xff"}, {"x", "y"}, list("[ x | y ]")} {
					hunks, errno := change.Hunks(f, h, wanted)
					for _, c := range hunks {
						wants(t, c.File, f, "the file of a hunk")
					}
					if errno != api.OK && hunks != nil {
						t.Errorf("%d, with hunks", errno)
					}
				}
			}
		}
	}
}

package graph

import (
	"cmp"
	"slices"
	"strings"

	"redwax/api"
)

// The vertices that every graph has.
var (
	root = api.Vertex{N: api.Root}
	end  = api.Vertex{N: api.End}
)

// name is what tells a part from all others of its graph.
type name struct {
	patch api.Hash
	at    int
}

// part is one of a graph's.
type part struct {
	// given is a copy of what Add was passed.
	given Part
	// rank is higher than those of all parts that were there when this one came.
	rank int
	// chain is Up, the lines, and Down. Each of them is before the next one.
	chain []*line
	// users is how many times other parts have a line of this one as Up, as Down or in Gone.
	users int
}

// line is a vertex of a graph.
type line struct {
	vertex api.Vertex
	text   string
	part   *part
	// at is its index in the chain of its part.
	at int
	// gone is how many parts have it in Gone.
	gone int
}

// isLine reports whether v, if it is a vertex of a graph, is a line.
func isLine(v api.Vertex) bool {
	return v != root && v != end
}

// name returns the part's name.
func (p Part) name() name {
	return name{p.Patch, p.At}
}

// vertex returns the vertex of the part's line at index i.
func (p Part) vertex(i int) api.Vertex {
	return api.Vertex{Patch: p.Patch, N: p.First + i}
}

// formed reports whether there may be a graph that the part can be added to.
func (p Part) formed() bool {
	if p.First < 0 || p.Up == end || p.Down == root {
		return false
	}
	seen := map[api.Vertex]struct{}{}
	for _, v := range p.Gone {
		if !isLine(v) {
			return false
		}
		seen[v] = struct{}{}
	}
	return len(seen) == len(p.Gone)
}

// copied returns the part with lists and strings of its own.
func (p Part) copied() Part {
	p.Lines = slices.Clone(p.Lines)
	for i, text := range p.Lines {
		p.Lines[i] = strings.Clone(text)
	}
	p.Gone = slices.Clone(p.Gone)
	return p
}

// up returns the vertex that all lines of the part are behind.
func (p *part) up() *line {
	return p.chain[0]
}

// down returns the vertex that all lines of the part are before.
func (p *part) down() *line {
	return p.chain[len(p.chain)-1]
}

// extend puts a vertex of the part itself at the end of its chain, and returns it.
func (p *part) extend(v api.Vertex, text string) *line {
	l := &line{vertex: v, text: text, part: p, at: len(p.chain)}
	p.chain = append(p.chain, l)
	return l
}

// byRank compares parts: those that came earlier are less.
func byRank(a, b *part) int {
	return cmp.Compare(a.rank, b.rank)
}

// before reports whether a is before b. A part never orders vertices that were there ahead of it:
// what leads through its lines comes from its Up and goes to its Down, and the one was before the
// other already. So, of vertices of two parts, that of the later part is before the other one by way
// of its part's Down alone, and behind it by way of its part's Up alone. Each step leads to an
// earlier part, at last to Root and End.
func before(a, b *line) bool {
	if a == b {
		return false
	}
	for a.part != b.part {
		if a.part.rank > b.part.rank {
			a = a.part.down()
		} else {
			b = b.part.up()
		}
	}
	return a.at <= b.at // equal if the steps have met
}

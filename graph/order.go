package graph

import (
	"container/heap"

	"redwax/api"
)

// candidates are the vertices that may be listed next, as a heap: the least one is at its top.
type candidates []*line

func (c candidates) Len() int           { return len(c) }
func (c candidates) Less(i, j int) bool { return Order(c[i].vertex, c[j].vertex) < 0 }
func (c candidates) Swap(i, j int)      { c[i], c[j] = c[j], c[i] }

// Push is for package heap alone.
func (c *candidates) Push(x any) {
	*c = append(*c, x.(*line))
}

// Pop is for package heap alone.
func (c *candidates) Pop() any {
	last := len(*c) - 1
	l := (*c)[last]
	*c = (*c)[:last]
	return l
}

// inOrder returns Root, the lines in their order, and End. Root is before all others, and all others
// are before End, so that they need no rule of their own.
func (g *Graph) inOrder() []*line {
	behind, ahead := g.edges()
	ready := candidates{g.vertices[root]}
	var listed []*line
	for len(ready) > 0 {
		l := heap.Pop(&ready).(*line)
		listed = append(listed, l)
		for _, next := range behind[l.vertex] {
			ahead[next.vertex]--
			if ahead[next.vertex] == 0 {
				heap.Push(&ready, next)
			}
		}
	}
	return listed
}

// edges returns, for each vertex, those that edges lead to from there, and how many edges lead to it.
// A part without lines adds an edge of no weight, from its Up to its Down: one is before the other.
func (g *Graph) edges() (behind map[api.Vertex][]*line, ahead map[api.Vertex]int) {
	behind, ahead = map[api.Vertex][]*line{}, map[api.Vertex]int{}
	link := func(chain []*line) {
		for i, next := range chain[1:] {
			from := chain[i].vertex
			behind[from] = append(behind[from], next)
			ahead[next.vertex]++
		}
	}
	link(g.frame.chain)
	for _, p := range g.parts {
		link(p.chain)
	}
	return behind, ahead
}

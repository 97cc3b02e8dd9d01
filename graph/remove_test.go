package graph_test

import (
	"math"
	"testing"

	"redwax/api"
)

// P15.2: no part with this name.
func TestRemoveOfNone(t *testing.T) {
	g := built(t, partP(), part{Patch: patch(1), At: 3, First: 7, Up: at(1, 0), Down: end, Lines: []string{"z"}})
	for _, x := range []struct{ patch, at int }{{1, 1}, {1, -1}, {1, 2}, {1, 4}, {2, 0}, {2, 3}, {0, 0}, {1, math.MaxInt}, {1, math.MinInt}} {
		wants(t, g.Remove(patch(x.patch), x.at), api.ErrNone, "Remove of patch %d, At %d", x.patch, x.at)
	}
	wants(t, told(g.Lines()), "a b z", "lines")
	wants(t, g.Remove(patch(1), 3), api.OK, "Remove of patch 1, At 3")
	wants(t, g.Remove(patch(1), 3), api.ErrNone, "Remove of patch 1, At 3 again")
	is(t, g, model{partP()})
}

// P15.2: what keeps a part: one of its lines, be it the last one, is another's Up or Down or in its
// Gone; as often as it is named, and no longer.
func TestRemoveOfWhatIsNamed(t *testing.T) {
	a, b := at(1, 0), at(1, 1)
	for _, users := range []model{
		{brings(2, a, end, "x")},
		{brings(2, b, end, "x")},
		{brings(2, root, a, "x")},
		{brings(2, root, b, "x")},
		{brings(2, root, end, "x", a)},
		{brings(2, root, end, "", b)},
		{brings(2, a, b, "", a, b)},
		{brings(2, a, b, "x", a, b), brings(3, a, b, "y", a), brings(4, b, end, "")},
	} {
		g := built(t, append(model{partP()}, users...)...)
		for i, p := range users {
			wants(t, g.Remove(patch(1), 0), api.ErrDepend, "Remove of p below %v", users[i:])
			is(t, g, append(model{partP()}, users[i:]...))
			wants(t, g.Remove(p.Patch, p.At), api.OK, "Remove of %v", p)
		}
		is(t, g, model{partP()})
		wants(t, g.Remove(patch(1), 0), api.OK, "Remove of p below none")
		is(t, g, nil)
	}
}

// P15.2: a part that names itself through none of its lines, or other parts, is not kept by that.
func TestRemoveOfWhatNamesOthers(t *testing.T) {
	p, q, r := partP(), partQ(), partR()
	s := brings(4, at(2, 0), at(1, 1), "n", at(2, 0), at(3, 0))
	g := built(t, p, q, r, s)
	wants(t, g.Remove(patch(3), 0), api.ErrDepend, "Remove of r")
	wants(t, g.Remove(patch(2), 0), api.ErrDepend, "Remove of q")
	wants(t, g.Remove(patch(4), 0), api.OK, "Remove of s")
	is(t, g, model{p, q, r})
	wants(t, g.Remove(patch(2), 0), api.OK, "Remove of q")
	is(t, g, model{p, r})
	wants(t, g.Remove(patch(1), 0), api.ErrDepend, "Remove of p")
	wants(t, g.Remove(patch(3), 0), api.OK, "Remove of r")
	wants(t, g.Remove(patch(1), 0), api.OK, "Remove of p")
	is(t, g, nil)
}

// P15.2, P15.1: a name and vertices that were removed may come again, as others.
func TestAddWhereWasRemoved(t *testing.T) {
	g := built(t, partP(), partQ())
	wants(t, g.Remove(patch(2), 0), api.OK, "Remove of q")
	wants(t, g.Has(at(2, 0)), false, "Has of x")
	wants(t, g.Before(at(1, 0), at(2, 0)), false, "a before x")
	other := part{Patch: patch(2), At: 0, First: 0, Up: at(1, 1), Down: end, Lines: []string{"k", "l"}, Gone: []api.Vertex{at(1, 0)}}
	wants(t, g.Add(other), api.OK, "Add of another q")
	is(t, g, model{partP(), other})
	wants(t, told(g.Lines()), "(a) b k l", "lines")
}

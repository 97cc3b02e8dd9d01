package patches

import (
	"strings"

	"redwax/api"
	"redwax/label"
	"redwax/lines"
	"redwax/paths"
)

// mostPlain is the greatest number of a plain vertex, and the greatest that codec reads back.
const mostPlain = 1<<32 - 2

// The vertices that every file has.
var (
	root = api.Vertex{N: api.Root}
	end  = api.Vertex{N: api.End}
)

// checkFields returns the first error of Check, but for that of the encoding's length.
func checkFields(p api.Patch) api.Errno {
	if errno := checkHead(p); errno != api.OK {
		return errno
	}
	for _, c := range p.Changes {
		if errno := checkChange(c, p.Label); errno != api.OK {
			return errno
		}
	}
	return api.OK
}

// checkHead returns the first error of what is told once in a patch.
func checkHead(p api.Patch) api.Errno {
	switch {
	case !Name(p.Origin):
		return api.ErrForm
	case p.Seq < 0 || p.Seq > api.MaxSeq:
		return api.ErrCount
	case label.Check(p.Label) != api.OK:
		return api.ErrLabel
	case len(p.Note) > api.MaxNote:
		return api.ErrLong
	case !printable(p.Note):
		return api.ErrForm
	case len(p.Deps) > api.MaxDeps:
		return api.ErrLong
	case !ascending(p.Deps, orderHashes):
		return api.ErrForm
	case len(p.Changes) == 0:
		return api.ErrForm
	case len(p.Changes) > api.MaxChanges:
		return api.ErrLong
	}
	return api.OK
}

// checkChange returns the first error of a change in a patch with a label.
func checkChange(c api.Change, of api.Label) api.Errno {
	f := fieldsOf(c.Kind)
	if f == (fields{}) || !f.cover(c) {
		return api.ErrForm
	}
	if errno := checkPath(c, of); errno != api.OK {
		return errno
	}
	if errno := checkVertices(c); errno != api.OK {
		return errno
	}
	if errno := lines.Check(c.Lines); errno != api.OK {
		return errno
	}
	if c.Kind == api.CHunk && len(c.Gone) == 0 && len(c.Lines) == 0 {
		return api.ErrForm
	}
	return api.OK
}

// checkPath returns the error of a change's path, and of the label that a rule gives to it.
func checkPath(c api.Change, of api.Label) api.Errno {
	switch c.Kind {
	case api.CAdd, api.CStub, api.CMove:
		return paths.Check(c.Path)
	case api.CTag:
		if !Name(c.Path) {
			return api.ErrForm
		}
	case api.CRule:
		if errno := paths.Prefix(c.Path); errno != api.OK {
			return errno
		}
		if label.Check(c.Label) != api.OK || of != (api.Label{}) {
			return api.ErrLabel
		}
	}
	return api.OK
}

// checkVertices returns the first error of a change's vertices. Those that its kind doesn't have are
// zero, which is plain.
func checkVertices(c api.Change) api.Errno {
	switch {
	case !plain(c.File):
		return api.ErrForm
	case !plain(c.Up) && c.Up != root, !plain(c.Down) && c.Down != end:
		return api.ErrForm
	case len(c.Gone) > api.MaxGone:
		return api.ErrLong
	case !plain(c.Gone...) || !ascending(c.Gone, Order):
		return api.ErrForm
	case c.Kind == api.CMove && len(c.Gone) == 0:
		return api.ErrForm
	}
	return api.OK
}

// plain reports whether all of these vertices are plain. Without a sign, numbers below 0 are greater
// than all that are.
func plain(l ...api.Vertex) bool {
	for _, v := range l {
		if uint64(v.N) > mostPlain {
			return false
		}
	}
	return true
}

// printable reports whether all bytes of a note are from 32 to 126. All of them are runes of one
// byte; other bytes, and those that are no UTF-8, are read as runes beyond these.
func printable(note string) bool {
	return !strings.ContainsFunc(note, func(r rune) bool { return r < ' ' || r > '~' })
}

// ascending reports whether each element is less than the next one.
func ascending[T any](l []T, order func(a, b T) int) bool {
	for i := 1; i < len(l); i++ {
		if order(l[i-1], l[i]) >= 0 {
			return false
		}
	}
	return true
}

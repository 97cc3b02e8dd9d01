package patches

import "redwax/api"

// fields is which fields the changes of a kind have. All others are zero.
type fields struct {
	path, file, ends, gone, lines, label bool
}

// fieldsOf returns the fields of a kind: none at all for one that is not one of the seven.
func fieldsOf(kind int) fields {
	var f fields
	switch kind {
	case api.CAdd, api.CStub:
		f.path, f.lines = true, true
	case api.CMove:
		f.path, f.file, f.gone = true, true, true
	case api.CHunk:
		f.ends, f.gone, f.lines = true, true, true
		fallthrough
	case api.CRemove:
		f.file = true
	case api.CRule:
		f.label = true
		fallthrough
	case api.CTag:
		f.path = true
	}
	return f
}

// cover reports whether all other fields of c are zero.
func (f fields) cover(c api.Change) bool {
	var noVertex api.Vertex
	var noLabel api.Label
	return (f.path || c.Path == "") &&
		(f.file || c.File == noVertex) &&
		(f.ends || c.Up == noVertex && c.Down == noVertex) &&
		(f.gone || len(c.Gone) == 0) &&
		(f.lines || len(c.Lines) == 0) &&
		(f.label || c.Label == noLabel)
}

package patches

import (
	"redwax/api"
	"redwax/codec"
)

const (
	// mostSeq and mostCount are what Get still reads: whether a patch may have so much, Check tells.
	mostSeq   = 1 << 32
	mostCount = api.MaxPatch
)

// encoding returns the encoding of p. Each piece is encoded by itself: behind all others it would
// take as long as these are, since codec copies what it puts a piece behind.
func encoding(p api.Patch) []byte {
	var b []byte
	b = append(b, codec.Text(nil, p.Origin)...)
	b = append(b, codec.Num(nil, uint64(p.Seq))...)
	b = append(b, codec.Label(nil, p.Label)...)
	b = append(b, codec.Text(nil, p.Note)...)
	b = appendList(b, p.Deps, codec.Hash)
	b = appendList(b, p.Changes, appendChange)
	return b
}

// appendList returns b followed by how many elements l has, and their encodings.
func appendList[T any](b []byte, l []T, add func(b []byte, v T) []byte) []byte {
	b = append(b, codec.Num(nil, uint64(len(l)))...)
	for _, v := range l {
		b = append(b, add(nil, v)...)
	}
	return b
}

// appendChange returns b followed by the encoding of c.
func appendChange(b []byte, c api.Change) []byte {
	f := fieldsOf(c.Kind)
	b = append(b, codec.Num(nil, uint64(c.Kind))...)
	if f.path {
		b = append(b, codec.Text(nil, c.Path)...)
	}
	if f.file {
		b = append(b, codec.Vertex(nil, c.File)...)
	}
	if f.ends {
		b = append(b, codec.Vertex(nil, c.Up)...)
		b = append(b, codec.Vertex(nil, c.Down)...)
	}
	if f.gone {
		b = appendList(b, c.Gone, codec.Vertex)
	}
	if f.lines {
		b = appendList(b, c.Lines, codec.Text)
	}
	if f.label {
		b = append(b, codec.Label(nil, c.Label)...)
	}
	return b
}

// read reads a patch. It means nothing if a read fails.
func read(r *codec.Reader) api.Patch {
	var p api.Patch
	p.Origin = r.Text(mostCount)
	p.Seq = int(r.Num(mostSeq))
	p.Label = r.Label()
	p.Note = r.Text(mostCount)
	p.Deps = readList(r, r.Hash)
	p.Changes = readList(r, func() api.Change { return readChange(r) })
	return p
}

// readList reads how many elements a list has, and these, until one fails.
func readList[T any](r *codec.Reader, element func() T) []T {
	var l []T
	for n := r.Num(mostCount); n > 0 && r.Err() == api.OK; n-- {
		l = append(l, element())
	}
	return l
}

// readChange reads a change.
func readChange(r *codec.Reader) api.Change {
	c := api.Change{Kind: int(r.Num(mostCount))}
	f := fieldsOf(c.Kind)
	if f.path {
		c.Path = r.Text(mostCount)
	}
	if f.file {
		c.File = r.Vertex()
	}
	if f.ends {
		c.Up = r.Vertex()
		c.Down = r.Vertex()
	}
	if f.gone {
		c.Gone = readList(r, r.Vertex)
	}
	if f.lines {
		c.Lines = readList(r, func() string { return r.Text(mostCount) })
	}
	if f.label {
		c.Label = r.Label()
	}
	return c
}

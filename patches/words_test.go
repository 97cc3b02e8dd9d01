package patches_test

import (
	"bytes"
	"crypto/sha256"
	"encoding/binary"
	"reflect"
	"slices"
	"strings"
	"testing"

	"redwax/api"
	"redwax/patches"
)

// The vertices that every file has, by the numbers that the document gives them.
var (
	root = api.Vertex{N: -1}
	end  = api.Vertex{N: -2}
)

// letters are a change's fields, in the order of the encoding: Path, File, Up, Down, Gone, Lines, laBel.
const letters = "pfudglb"

// has is the fields of each kind.
var has = map[int]string{1: "pl", 2: "pl", 3: "f", 4: "fpg", 5: "fudgl", 6: "p", 7: "pb"}

// wants fails the test if got is not what is wanted.
func wants[T comparable](t *testing.T, got, want T, format string, args ...any) {
	t.Helper()
	if got != want {
		t.Errorf(format+": %v, not %v", append(args, got, want)...)
	}
}

// partBytes are those that may stand in a part.
const partBytes = "abcdefghijklmnopqrstuvwxyzABCDEFGHIJKLMNOPQRSTUVWXYZ0123456789_-."

// isPart is chapter 6's.
func isPart(s string) bool {
	others := 0
	for _, b := range []byte(s) {
		if strings.IndexByte(partBytes, b) < 0 {
			return false
		}
		if b != '.' {
			others++
		}
	}
	return others > 0
}

// isPath is chapter 6's.
func isPath(s string) bool {
	parts := strings.Split(s, "/")
	return len(s) <= 60 && len(parts) <= 8 && !slices.ContainsFunc(parts, func(s string) bool { return !isPart(s) })
}

// isName is what a name is, by the words.
func isName(s string) bool {
	return len(s) <= 16 && isPart(s)
}

// isLine is chapter 13's.
func isLine(s string) bool {
	for _, b := range []byte(s) {
		if b != 9 && (b < 32 || b > 126) {
			return false
		}
	}
	return len(s) <= 80 && s != ">>>>>>>" && s != "=======" && s != "<<<<<<<"
}

// isPlain is what a plain vertex is, by the words.
func isPlain(v api.Vertex) bool {
	return v.N >= 0 && v.N <= 4294967294
}

// orderOf is the order of vertices, by the words.
func orderOf(a, b api.Vertex) int {
	for i := range a.Patch {
		switch {
		case a.Patch[i] < b.Patch[i]:
			return -1
		case a.Patch[i] > b.Patch[i]:
			return 1
		}
	}
	switch {
	case a.N < b.N:
		return -1
	case a.N > b.N:
		return 1
	}
	return 0
}

// isValid is chapter 5's.
func isValid(l api.Label) bool {
	return l.Level >= 0 && l.Level <= 15
}

// fault is an error, and whether it applies.
type fault struct {
	there bool
	errno api.Errno
}

// first is the first error that applies.
func first(faults []fault) api.Errno {
	for _, f := range faults {
		if f.there {
			return f.errno
		}
	}
	return api.OK
}

// isZero reports whether the field with this letter is zero.
func isZero(c api.Change, letter rune) bool {
	switch letter {
	case 'p':
		return c.Path == ""
	case 'f':
		return c.File == api.Vertex{}
	case 'u':
		return c.Up == api.Vertex{}
	case 'd':
		return c.Down == api.Vertex{}
	case 'g':
		return len(c.Gone) == 0
	case 'l':
		return len(c.Lines) == 0
	}
	return c.Label == api.Label{}
}

// changeFaults are the errors of a change, in their order, by the words.
func changeFaults(c api.Change, of api.Label) []fault {
	is := func(kinds ...int) bool { return slices.Contains(kinds, c.Kind) }
	strange := func(letter rune) bool { return !strings.ContainsRune(has[c.Kind], letter) && !isZero(c, letter) }
	faults := []fault{
		{c.Kind < 1 || c.Kind > 7, 4},
		{strings.ContainsFunc(letters, strange), 4},
		{is(1, 2, 4) && !isPath(c.Path), 15},
		{is(6) && !isName(c.Path), 4},
		{is(7) && c.Path != "" && !isPath(c.Path), 15},
		{is(7) && (!isValid(c.Label) || of != api.Label{}), 11},
		{is(3, 4, 5) && !isPlain(c.File), 4},
		{is(5) && !isPlain(c.Up) && c.Up != root, 4},
		{is(5) && !isPlain(c.Down) && c.Down != end, 4},
		{len(c.Gone) > 512, 3},
	}
	for i, v := range c.Gone {
		faults = append(faults, fault{!isPlain(v) || i > 0 && orderOf(c.Gone[i-1], v) != -1, 4})
	}
	return append(faults,
		fault{is(4) && len(c.Gone) == 0, 4},
		fault{len(c.Lines) > 256, 3},
		fault{slices.ContainsFunc(c.Lines, func(s string) bool { return !isLine(s) }), 4},
		fault{is(5) && len(c.Gone) == 0 && len(c.Lines) == 0, 4})
}

// errnoOf is P18.1's Check, by the words.
func errnoOf(p api.Patch) api.Errno {
	faults := []fault{
		{!isName(p.Origin), 4},
		{p.Seq < 0 || p.Seq > 1048576, 13},
		{!isValid(p.Label), 11},
		{len(p.Note) > 60, 3},
		{slices.ContainsFunc([]byte(p.Note), func(b byte) bool { return b < 32 || b > 126 }), 4},
		{len(p.Deps) > 256, 3},
	}
	for i := range p.Deps {
		faults = append(faults, fault{i > 0 && string(p.Deps[i-1][:]) >= string(p.Deps[i][:]), 4})
	}
	faults = append(faults, fault{len(p.Changes) == 0, 4}, fault{len(p.Changes) > 64, 3})
	for _, c := range p.Changes {
		faults = append(faults, changeFaults(c, p.Label)...)
	}
	return first(append(faults, fault{len(bytesOf(p)) > 65536, 3}))
}

// text is a string's encoding by chapter 4.
func text(s string) []byte {
	return append(binary.AppendUvarint(nil, uint64(len(s))), s...)
}

// vertex is a vertex's encoding by chapter 4.
func vertex(v api.Vertex) []byte {
	return append(v.Patch[:], binary.AppendUvarint(nil, uint64(v.N)+2)...)
}

// label is a label's encoding by chapter 4.
func label(l api.Label) []byte {
	return binary.BigEndian.AppendUint64(binary.AppendUvarint(nil, uint64(l.Level)), l.Comp)
}

// bytesOf is the encoding of a patch, by the words.
func bytesOf(p api.Patch) []byte {
	count := func(n int) []byte { return binary.AppendUvarint(nil, uint64(n)) }
	l := [][]byte{text(p.Origin), count(p.Seq), label(p.Label), text(p.Note), count(len(p.Deps))}
	for _, h := range p.Deps {
		l = append(l, slices.Clone(h[:]))
	}
	l = append(l, count(len(p.Changes)))
	for _, c := range p.Changes {
		l = append(l, count(c.Kind))
		for _, letter := range letters {
			if !strings.ContainsRune(has[c.Kind], letter) {
				continue
			}
			switch letter {
			case 'p':
				l = append(l, text(c.Path))
			case 'f':
				l = append(l, vertex(c.File))
			case 'u':
				l = append(l, vertex(c.Up))
			case 'd':
				l = append(l, vertex(c.Down))
			case 'g':
				l = append(l, count(len(c.Gone)))
				for _, v := range c.Gone {
					l = append(l, vertex(v))
				}
			case 'l':
				l = append(l, count(len(c.Lines)))
				for _, s := range c.Lines {
					l = append(l, text(s))
				}
			case 'b':
				l = append(l, label(c.Label))
			}
		}
	}
	return bytes.Join(l, nil)
}

// errForm ends a reading by the words.
type errForm struct{}

// reading is bytes that are read, from the front on. What is not there is a panic with errForm.
type reading struct {
	left []byte
}

func (r *reading) num(most uint64) int {
	n, size := binary.Uvarint(r.left)
	if size <= 0 || n > most || size > 1 && r.left[size-1] == 0 {
		panic(errForm{})
	}
	r.left = r.left[size:]
	return int(n)
}

func (r *reading) bytes(n int) []byte {
	if n > len(r.left) {
		panic(errForm{})
	}
	b := r.left[:n]
	r.left = r.left[n:]
	return b
}

func (r *reading) text() string {
	return string(r.bytes(r.num(65536)))
}

func (r *reading) vertex() api.Vertex {
	h := api.Hash(r.bytes(32))
	return api.Vertex{Patch: h, N: r.num(1<<32) - 2}
}

func (r *reading) label() api.Label {
	level := r.num(15)
	return api.Label{Level: level, Comp: binary.BigEndian.Uint64(r.bytes(8))}
}

func (r *reading) change() api.Change {
	c := api.Change{Kind: r.num(65536)}
	for _, letter := range letters {
		if !strings.ContainsRune(has[c.Kind], letter) {
			continue
		}
		switch letter {
		case 'p':
			c.Path = r.text()
		case 'f':
			c.File = r.vertex()
		case 'u':
			c.Up = r.vertex()
		case 'd':
			c.Down = r.vertex()
		case 'g':
			for range r.num(65536) {
				c.Gone = append(c.Gone, r.vertex())
			}
		case 'l':
			for range r.num(65536) {
				c.Lines = append(c.Lines, r.text())
			}
		case 'b':
			c.Label = r.label()
		}
	}
	return c
}

// patchOf is P18.2's Get, by the words.
func patchOf(b []byte) (p api.Patch, errno api.Errno) {
	defer func() {
		if _, ok := recover().(errForm); ok {
			p, errno = api.Patch{}, 4
		}
	}()
	if len(b) > 65536 {
		return api.Patch{}, 3
	}
	r := reading{b}
	p.Origin = r.text()
	p.Seq = r.num(1 << 32)
	p.Label = r.label()
	p.Note = r.text()
	for range r.num(65536) {
		p.Deps = append(p.Deps, api.Hash(r.bytes(32)))
	}
	for range r.num(65536) {
		p.Changes = append(p.Changes, r.change())
	}
	if len(r.left) > 0 {
		return api.Patch{}, 4
	}
	if errno := errnoOf(p); errno != api.OK {
		return api.Patch{}, errno
	}
	return p, api.OK
}

// plainly is p with nil for its empty lists.
func plainly(p api.Patch) api.Patch {
	p = copied(p)
	if len(p.Deps) == 0 {
		p.Deps = nil
	}
	if len(p.Changes) == 0 {
		p.Changes = nil
	}
	for i := range p.Changes {
		c := &p.Changes[i]
		if len(c.Gone) == 0 {
			c.Gone = nil
		}
		if len(c.Lines) == 0 {
			c.Lines = nil
		}
	}
	return p
}

// copied is p with lists of its own.
func copied(p api.Patch) api.Patch {
	p.Deps = slices.Clone(p.Deps)
	p.Changes = slices.Clone(p.Changes)
	for i, c := range p.Changes {
		p.Changes[i].Gone = slices.Clone(c.Gone)
		p.Changes[i].Lines = slices.Clone(c.Lines)
	}
	return p
}

// is checks Check, Put and ID of p against the words, and returns the error. What can be put is got
// again.
func is(t *testing.T, p api.Patch) api.Errno {
	t.Helper()
	want := errnoOf(p)
	before := copied(p)
	if got := patches.Check(p); got != want {
		t.Fatalf("Check of %.999v: %d, not %d", p, got, want)
	}
	b, errno := patches.Put(p)
	id := patches.ID(p)
	if !reflect.DeepEqual(p, before) {
		t.Fatalf("%.999v was changed into %.999v", before, p)
	}
	if want != api.OK {
		if errno != want || len(b) != 0 || id != (api.Hash{}) {
			t.Fatalf("beside the error %d of %.999v: %d bytes, %d, %x", want, p, len(b), errno, id)
		}
		return want
	}
	if errno != api.OK || !bytes.Equal(b, bytesOf(p)) {
		t.Fatalf("Put of %.999v: %x, %d, not %x", p, b, errno, bytesOf(p))
	}
	if id != sha256.Sum256(b) {
		t.Fatalf("ID of %.999v: %x", p, id)
	}
	reads(t, b)
	got, errno := patches.Get(b)
	if errno != api.OK || !reflect.DeepEqual(got, plainly(p)) {
		t.Fatalf("%.999v is got as %.999v, %d", p, got, errno)
	}
	return want
}

// reads checks Get of b against the words, and returns the error. What can be got is put again.
func reads(t *testing.T, b []byte) api.Errno {
	t.Helper()
	before := slices.Clone(b)
	want, wantErrno := patchOf(b)
	got, errno := patches.Get(b)
	if errno != wantErrno || !reflect.DeepEqual(got, want) {
		t.Fatalf("Get of %.999x: %.999v, %d, not %.999v, %d", b, got, errno, want, wantErrno)
	}
	if !bytes.Equal(b, before) {
		t.Fatalf("%.999x was changed into %.999x", before, b)
	}
	if errno == api.OK {
		again, errno := patches.Put(got)
		if errno != api.OK || !bytes.Equal(again, b) {
			t.Fatalf("%.999x is put again as %.999x, %d", b, again, errno)
		}
	}
	return errno
}

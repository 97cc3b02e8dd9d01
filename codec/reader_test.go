package codec_test

import (
	"bytes"
	"encoding/binary"
	"math"
	"math/big"
	"slices"
	"strings"
	"testing"

	"redwax/api"
	"redwax/codec"
)

// read is one of the five reads, with bounds that allow all: what it read, encoded behind nothing,
// and whether that is the zero value.
type read struct {
	name string
	do   func(r *codec.Reader) (encoding []byte, zero bool)
}

func reads() []read {
	return []read{
		{"Num", func(r *codec.Reader) ([]byte, bool) {
			n := r.Num(math.MaxUint64)
			return codec.Num(nil, n), n == 0
		}},
		{"Text", func(r *codec.Reader) ([]byte, bool) {
			s := r.Text(math.MaxInt)
			return codec.Text(nil, s), s == ""
		}},
		{"Hash", func(r *codec.Reader) ([]byte, bool) {
			h := r.Hash()
			return codec.Hash(nil, h), h == api.Hash{}
		}},
		{"Label", func(r *codec.Reader) ([]byte, bool) {
			l := r.Label()
			return codec.Label(nil, l), l == api.Label{}
		}},
		{"Vertex", func(r *codec.Reader) ([]byte, bool) {
			v := r.Vertex()
			return codec.Vertex(nil, v), v == api.Vertex{}
		}},
	}
}

// fails checks that a read of b returns the zero value and sets the error.
func fails(t *testing.T, b []byte, want api.Errno, what string, do func(r *codec.Reader) bool) {
	t.Helper()
	r := codec.Open(b)
	if zero := do(r); !zero || r.Err() != want || r.Done() != want {
		t.Errorf("%s of %x: the zero value: %v, errors %d and %d, not %d", what, b, zero, r.Err(), r.Done(), want)
	}
}

// formFails checks that a read of b, bounded by nothing, fails with ErrForm.
func formFails(t *testing.T, b []byte, x read) {
	t.Helper()
	fails(t, b, api.ErrForm, x.name, func(r *codec.Reader) bool {
		_, zero := x.do(r)
		return zero
	})
}

func readNamed(name string) read {
	l := reads()
	return l[slices.IndexFunc(l, func(x read) bool { return x.name == name })]
}

// readsAs checks that b, with what follows it, is read by do, and that reading goes on behind b.
func readsAs(t *testing.T, b []byte, what string, do func(r *codec.Reader) bool) {
	t.Helper()
	r := codec.Open(b)
	if ok := do(r); !ok || r.Err() != api.OK || r.Done() != api.OK {
		t.Errorf("%s of %x: right: %v, errors %d and %d", what, b, ok, r.Err(), r.Done())
	}
	for _, tail := range [][]byte{{0}, {1}, {127}, {128}, {255}, mixedBytes(40), bytes.Repeat([]byte{255}, 50)} {
		r := codec.Open(slices.Concat(b, codec.Text(nil, string(tail)), tail))
		ok := do(r)
		if err, done := r.Err(), r.Done(); !ok || err != api.OK || done != api.ErrForm {
			t.Errorf("%s of %x with bytes behind it: right: %v, errors %d and %d", what, b, ok, err, done)
		}
		if s := r.Text(50); s != string(tail) || r.Err() != api.OK || r.Done() != api.ErrForm {
			t.Errorf("%s of %x: behind it %x is read, not %x; error %d", what, b, s, tail, r.Err())
		}
	}
}

// numberIn works out by the words of the chapter which number's encoding stands at the front of b,
// and in how many bytes: in none if there is no encoding.
func numberIn(b []byte) (uint64, int) {
	size := slices.IndexFunc(b, func(x byte) bool { return x < 128 }) + 1
	n := new(big.Int)
	for _, x := range slices.Backward(b[:size]) {
		n.Add(n.Mul(n, big.NewInt(128)), big.NewInt(int64(x%128)))
	}
	if size == 0 || !n.IsUint64() || size > 1 && b[size-1] == 0 {
		return 0, 0
	}
	return n.Uint64(), size
}

// P4.2: numbers, as far as the bound and no further.
func TestReadNum(t *testing.T) {
	for _, n := range numbers() {
		b := binary.AppendUvarint(nil, n)
		for _, most := range []uint64{n, math.MaxUint64, n | 1, n | 1<<63} {
			readsAs(t, b, "Num", func(r *codec.Reader) bool { return r.Num(most) == n })
		}
	}
}

// P4.2: numbers above the bound.
func TestReadNumAboveMost(t *testing.T) {
	for _, n := range numbers() {
		for _, most := range []uint64{n - 1, n / 2, 0} {
			if n == 0 {
				continue
			}
			for _, tail := range [][]byte{nil, {0}, mixedBytes(50)} {
				b := append(binary.AppendUvarint(nil, n), tail...)
				fails(t, b, api.ErrLong, "Num", func(r *codec.Reader) bool { return r.Num(most) == 0 })
			}
		}
	}
}

// wrongNumbers are no encodings of numbers, whatever follows those that end.
func wrongNumbers() []string {
	return []string{
		"80 00", "81 00", "ff 00", "80 80 00", "ff ff 00", "80 80 80 80 80 80 80 80 00", "ff ff ff ff ff ff ff ff ff 00",
		"80 80 80 80 80 80 80 80 80 80 00", "80 80 80 80 80 80 80 80 80 81 00", "81 80 80 80 80 80 80 80 80 80 80 80 80 00",
		"ff ff ff ff ff ff ff ff ff 02", "80 80 80 80 80 80 80 80 80 02", "80 80 80 80 80 80 80 80 80 03",
		"ff ff ff ff ff ff ff ff ff 03", "ff ff ff ff ff ff ff ff ff 04", "80 80 80 80 80 80 80 80 80 40",
		"ff ff ff ff ff ff ff ff ff 7f", "80 80 80 80 80 80 80 80 80 80 01", "ff ff ff ff ff ff ff ff ff 80 01",
		"ff ff ff ff ff ff ff ff ff 81 00", "ff ff ff ff ff ff ff ff ff ff 01", "81 80 80 80 80 80 80 80 80 80 80 80 80 01",
		"80 80 80 80 80 80 80 80 80 80 80 80 80 80 80 80 80 80 80 02",
	}
}

// P4.2: bytes that are no encoding of a number, whatever the bound is: ErrForm before ErrLong.
func TestReadNoNum(t *testing.T) {
	for _, s := range wrongNumbers() {
		for _, most := range []uint64{0, 1, 127, 1 << 63, math.MaxUint64} {
			for _, tail := range [][]byte{nil, {0}, {1}, mixedBytes(50)} {
				b := append(unhex(s), tail...)
				fails(t, b, api.ErrForm, "Num", func(r *codec.Reader) bool { return r.Num(most) == 0 })
			}
		}
	}
}

// P4.2: bytes that end within a number.
func TestReadNumThatEnds(t *testing.T) {
	for _, n := range numbers() {
		b := binary.AppendUvarint(nil, n)
		for end := range b {
			for _, most := range []uint64{0, n, math.MaxUint64} {
				fails(t, b[:end], api.ErrForm, "Num", func(r *codec.Reader) bool { return r.Num(most) == 0 })
			}
		}
	}
	for n := range 30 {
		formFails(t, bytes.Repeat([]byte{128}, n), readNamed("Num"))
		formFails(t, bytes.Repeat([]byte{255}, n), readNamed("Num"))
	}
}

// P4.2: all beginnings of two bytes, behind nothing and behind bytes that go on.
func TestReadNumOfAllBeginnings(t *testing.T) {
	for _, before := range []int{0, 1, 2, 7, 8, 9} {
		for i := range 1 << 16 {
			b := append(bytes.Repeat([]byte{129}, before), byte(i>>8), byte(i), 1)
			want, size := numberIn(b)
			errno := api.ErrForm
			if size > 0 {
				errno = api.OK
			}
			r := codec.Open(b)
			if n := r.Num(math.MaxUint64); n != want || r.Err() != errno {
				t.Fatalf("%x is read as %d, error %d; not %d, error %d", b, n, r.Err(), want, errno)
			}
		}
	}
}

// P4.2: strings, as long as the bound and no longer.
func TestReadText(t *testing.T) {
	for _, s := range texts() {
		b := append(binary.AppendUvarint(nil, uint64(len(s))), s...)
		for _, most := range []int{len(s), len(s) + 1, math.MaxInt} {
			readsAs(t, b, "Text", func(r *codec.Reader) bool { return r.Text(most) == s })
		}
	}
}

// P4.2: strings that are longer than the bound, whether or not their bytes are there.
func TestReadTextAboveMost(t *testing.T) {
	for _, s := range texts() {
		for _, most := range []int{len(s) - 1, len(s) / 2, 0, -1, math.MinInt} {
			if s == "" {
				continue
			}
			b := append(binary.AppendUvarint(nil, uint64(len(s))), s...)
			for _, b := range [][]byte{b, append(b, 1), b[:len(b)-1], b[:len(b)-len(s)]} {
				fails(t, b, api.ErrLong, "Text", func(r *codec.Reader) bool { return r.Text(most) == "" })
			}
		}
	}
}

// P4.2: below 0, a bound is 0: only the empty string is read.
func TestReadTextWithMostBelow0(t *testing.T) {
	for _, most := range []int{0, -1, -2, -128, math.MinInt} {
		readsAs(t, []byte{0}, "Text", func(r *codec.Reader) bool { return r.Text(most) == "" })
		for _, s := range []string{"01", "01 61", "7f", "80 01", "ff ff ff ff ff ff ff ff ff 01"} {
			fails(t, unhex(s), api.ErrLong, "Text", func(r *codec.Reader) bool { return r.Text(most) == "" })
		}
		for _, s := range []string{"", "80", "80 00", "ff ff ff ff ff ff ff ff ff 02"} {
			fails(t, unhex(s), api.ErrForm, "Text", func(r *codec.Reader) bool { return r.Text(most) == "" })
		}
	}
}

// P4.2: strings that are longer than the bytes that are left.
func TestReadTextThatEnds(t *testing.T) {
	for _, s := range texts() {
		b := append(binary.AppendUvarint(nil, uint64(len(s))), s...)
		for _, end := range []int{0, len(b) - len(s) - 1, len(b) - len(s), len(b) - len(s) + 1, len(b) - 1} {
			if end >= len(b) {
				continue
			}
			for _, most := range []int{len(s), math.MaxInt} {
				fails(t, b[:end], api.ErrForm, "Text", func(r *codec.Reader) bool { return r.Text(most) == "" })
			}
		}
	}
}

// P4.2: strings whose number of bytes is far above what is left, or above what a bound can be.
func TestReadTextOfManyBytes(t *testing.T) {
	tail := mixedBytes(50)
	for _, n := range []uint64{51, 1 << 31, 1 << 32, 1<<32 + 1, 1<<63 - 2, 1<<63 - 1} {
		b := append(binary.AppendUvarint(nil, n), tail...)
		formFails(t, b, readNamed("Text"))
	}
	for _, n := range []uint64{1 << 63, 1<<63 + 1, 1<<64 - 1} {
		b := append(binary.AppendUvarint(nil, n), tail...)
		fails(t, b, api.ErrLong, "Text", func(r *codec.Reader) bool { return r.Text(math.MaxInt) == "" })
	}
	for _, s := range wrongNumbers() {
		formFails(t, append(unhex(s), tail...), readNamed("Text"))
	}
}

// P4.3: hashes.
func TestReadHash(t *testing.T) {
	for _, h := range hashes() {
		readsAs(t, h[:], "Hash", func(r *codec.Reader) bool { return r.Hash() == h })
	}
}

// P4.3: labels, of the Levels 0 to 15.
func TestReadLabel(t *testing.T) {
	for _, l := range labels(0, api.MaxLevel) {
		b := binary.BigEndian.AppendUint64([]byte{byte(l.Level)}, l.Comp)
		readsAs(t, b, "Label", func(r *codec.Reader) bool { return r.Label() == l })
	}
}

// P4.3: Levels above 15, and bytes that are no Level's encoding, with enough bytes behind them.
func TestReadLabelThatIsNotValid(t *testing.T) {
	levels := []string{"10", "11", "7f", "80 01", "8f 01", "80 80 80 80 10", "8f 80 80 80 80 80 80 80 80 01", "ff ff ff ff ff ff ff ff ff 01"}
	for _, s := range append(levels, wrongNumbers()...) {
		for _, c := range comps() {
			for _, tail := range []int{0, 1, 50} {
				b := binary.BigEndian.AppendUint64(unhex(s), c)
				formFails(t, append(b, make([]byte, tail)...), readNamed("Label"))
			}
		}
	}
}

// P4.3: vertices, of numbers up to 2^32.
func TestReadVertex(t *testing.T) {
	for _, v := range readable() {
		b := binary.AppendUvarint(v.Patch[:], uint64(v.N+2))
		readsAs(t, b, "Vertex", func(r *codec.Reader) bool { return r.Vertex() == v })
	}
	b := append(make([]byte, 32), unhex("80 80 80 80 10")...)
	readsAs(t, b, "Vertex", func(r *codec.Reader) bool { return r.Vertex() == api.Vertex{N: 1<<32 - 2} })
}

// P4.3: numbers of vertices above 2^32, and bytes that are no number's encoding.
func TestReadVertexThatIsTooGreat(t *testing.T) {
	ns := []string{"81 80 80 80 10", "82 80 80 80 10", "80 80 80 80 20", "80 80 80 80 80 01", "ff ff ff ff ff ff ff ff 7f",
		"80 80 80 80 80 80 80 80 80 01", "fe ff ff ff ff ff ff ff ff 01", "ff ff ff ff ff ff ff ff ff 01"}
	for _, s := range append(ns, wrongNumbers()...) {
		for _, h := range hashes() {
			for _, tail := range []int{0, 1, 50} {
				formFails(t, slices.Concat(h[:], unhex(s), make([]byte, tail)), readNamed("Vertex"))
			}
		}
	}
}

// P4.3: bytes that end within a hash, a label, a vertex.
func TestReadsThatEnd(t *testing.T) {
	var vertices [][]byte
	for _, n := range []int{api.End, api.Root, 0, 125, 126, 1 << 20, 1<<32 - 2} {
		vertices = append(vertices, codec.Vertex(nil, api.Vertex{Patch: api.Hash(mixedBytes(32)), N: n}))
	}
	for name, l := range map[string][][]byte{
		"Hash":   {make([]byte, 32), mixedBytes(32)},
		"Label":  {make([]byte, 9), unhex("0f ff ff ff ff ff ff ff ff"), unhex("03 00 00 00 00 00 00 00 1f")},
		"Vertex": append(vertices, make([]byte, 33)),
	} {
		for _, b := range l {
			for end := range b {
				formFails(t, b[:end], readNamed(name))
				formFails(t, bytes.Clone(b[:end]), readNamed(name))
			}
		}
	}
}

// failures are ways to make a reader fail whose bytes would let each of the reads succeed.
func failures() map[string]func(b []byte) (*codec.Reader, api.Errno) {
	return map[string]func(b []byte) (*codec.Reader, api.Errno){
		"Num too great": func(b []byte) (*codec.Reader, api.Errno) {
			r := codec.Open(b)
			r.Num(4)
			return r, api.ErrLong
		},
		"Text too long": func(b []byte) (*codec.Reader, api.Errno) {
			r := codec.Open(b)
			r.Text(4)
			return r, api.ErrLong
		},
		"Text without its bytes": func(b []byte) (*codec.Reader, api.Errno) {
			r := codec.Open(append(b, 1))
			for range len(b) {
				r.Num(9)
			}
			r.Text(9)
			return r, api.ErrForm
		},
		"no number": func(b []byte) (*codec.Reader, api.Errno) {
			r := codec.Open(append(unhex("80 00"), b...))
			r.Num(9)
			return r, api.ErrForm
		},
		"no Level": func(b []byte) (*codec.Reader, api.Errno) {
			r := codec.Open(append([]byte{16}, b...))
			r.Label()
			return r, api.ErrForm
		},
		"no vertex": func(b []byte) (*codec.Reader, api.Errno) {
			r := codec.Open(slices.Concat(b[:32], unhex("81 80 80 80 10"), b))
			r.Vertex()
			return r, api.ErrForm
		},
		"no hash": func(b []byte) (*codec.Reader, api.Errno) {
			r := codec.Open(b[:31])
			r.Hash()
			return r, api.ErrForm
		},
	}
}

// P4.4: after a failure each read returns the zero value, and the error stays.
func TestFailureEndsReading(t *testing.T) {
	b := bytes.Repeat([]byte{5}, 100)
	for name, fail := range failures() {
		for _, first := range reads() {
			r, want := fail(b)
			for _, x := range append([]read{first}, reads()...) {
				if r.Err() != want || r.Done() != want {
					t.Fatalf("%s: ahead of %s the errors are %d and %d, not %d", name, x.name, r.Err(), r.Done(), want)
				}
				if encoding, zero := x.do(r); !zero {
					t.Errorf("%s: behind it %s reads %x", name, x.name, encoding)
				}
			}
			if r.Num(0) != 0 || r.Text(-1) != "" || r.Err() != want || r.Done() != want {
				t.Errorf("%s: in the end the errors are %d and %d, not %d", name, r.Err(), r.Done(), want)
			}
		}
	}
}

// P4.4: a failure of one kind is not replaced by one of the other.
func TestFirstErrorStays(t *testing.T) {
	r := codec.Open([]byte{5})
	if r.Num(4); r.Hash() != (api.Hash{}) || r.Err() != api.ErrLong || r.Done() != api.ErrLong {
		t.Errorf("a number that is too great, then no hash: errors %d and %d", r.Err(), r.Done())
	}
	r = codec.Open([]byte{5})
	if r.Hash(); r.Num(4) != 0 || r.Err() != api.ErrForm || r.Done() != api.ErrForm {
		t.Errorf("no hash, then a number that is too great: errors %d and %d", r.Err(), r.Done())
	}
}

// P4.4: a failure when some reads succeeded and no byte is left.
func TestFailureBehindReads(t *testing.T) {
	for _, x := range reads() {
		r := codec.Open([]byte{7, 0})
		if n := r.Num(7); n != 7 || r.Text(0) != "" || r.Done() != api.OK {
			t.Errorf("%d is read, error %d", n, r.Err())
		}
		if _, zero := x.do(r); !zero || r.Err() != api.ErrForm || r.Done() != api.ErrForm {
			t.Errorf("%s of no bytes: the zero value: %v, errors %d and %d", x.name, zero, r.Err(), r.Done())
		}
	}
}

// P4.4: Done with bytes left and with none; it is no read, so that reading may go on.
func TestDone(t *testing.T) {
	for _, b := range [][]byte{nil, {}, mixedBytes(9)[:0]} {
		if r := codec.Open(b); r.Err() != api.OK || r.Done() != api.OK || r.Err() != api.OK {
			t.Errorf("no bytes: errors %d and %d", r.Err(), r.Done())
		}
	}
	for _, n := range []int{1, 2, 50} {
		r := codec.Open(bytes.Repeat([]byte{1}, n))
		for range n {
			if r.Err() != api.OK || r.Done() != api.ErrForm || r.Done() != api.ErrForm || r.Err() != api.OK {
				t.Errorf("bytes are left of %d: errors %d and %d", n, r.Err(), r.Done())
			}
			if r.Num(1) != 1 {
				t.Errorf("of %d bytes, one is not read", n)
			}
		}
		if r.Err() != api.OK || r.Done() != api.OK {
			t.Errorf("no byte is left of %d: errors %d and %d", n, r.Err(), r.Done())
		}
	}
}

// P4.4: readers that Open did not return: none, zero ones, and copies, of readers that failed too.
func TestOtherReaders(t *testing.T) {
	opened, failed := codec.Open(bytes.Repeat([]byte{5}, 100)), codec.Open(nil)
	failed.Hash()
	copied, copiedFailed := *opened, *failed
	for i, r := range []*codec.Reader{nil, {}, new(codec.Reader), &copied, &copiedFailed} {
		for _, x := range append(reads(), reads()...) {
			if r.Err() != api.ErrNil || r.Done() != api.ErrNil {
				t.Errorf("reader %d: errors %d and %d", i, r.Err(), r.Done())
			}
			if encoding, zero := x.do(r); !zero {
				t.Errorf("reader %d: %s reads %x", i, x.name, encoding)
			}
		}
		if r.Num(0) != 0 || r.Text(0) != "" || r.Text(-1) != "" || r.Err() != api.ErrNil || r.Done() != api.ErrNil {
			t.Errorf("reader %d: in the end the errors are %d and %d", i, r.Err(), r.Done())
		}
	}
	if opened.Text(5) != "\x05\x05\x05\x05\x05" || opened.Err() != api.OK || failed.Err() != api.ErrForm {
		t.Errorf("readers that were copied: errors %d and %d", opened.Err(), failed.Err())
	}
}

// P4.4: readers are apart, also those of the same bytes.
func TestReadersAreApart(t *testing.T) {
	b := []byte{1, 2, 3}
	first, second := codec.Open(b), codec.Open(b)
	if first.Num(9) != 1 || first.Num(1) != 0 || first.Err() != api.ErrLong {
		t.Errorf("the first: error %d", first.Err())
	}
	if second.Num(9) != 1 || second.Num(9) != 2 || second.Num(9) != 3 || second.Done() != api.OK {
		t.Errorf("the second: error %d", second.Done())
	}
}

// pair is a label and a vertex that are read one behind the other.
type pair struct {
	label  api.Label
	vertex api.Vertex
}

// pairs has all valid labels, and all vertices that can be read.
func pairs() []pair {
	var l []pair
	vertices := readable()
	for i, label := range labels(0, api.MaxLevel) {
		l = append(l, pair{label, vertices[i%len(vertices)]})
	}
	return l
}

// P4.5: all kinds, one behind the other, are read back in order.
func TestReadBack(t *testing.T) {
	var b []byte
	for i, s := range texts() {
		b = codec.Hash(codec.Text(b, s), hashes()[i%5])
	}
	for _, n := range numbers() {
		b = codec.Num(b, n)
	}
	for _, p := range pairs() {
		b = codec.Vertex(codec.Label(b, p.label), p.vertex)
	}
	r := codec.Open(b)
	for i, s := range texts() {
		if text, hash := r.Text(len(s)), r.Hash(); text != s || hash != hashes()[i%5] {
			t.Fatalf("%q and hash %d are read as %q and %x, error %d", s, i%5, text, hash, r.Err())
		}
	}
	for _, n := range numbers() {
		if got := r.Num(n); got != n {
			t.Fatalf("%d is read as %d, error %d", n, got, r.Err())
		}
	}
	for _, p := range pairs() {
		if label, vertex := r.Label(), r.Vertex(); label != p.label || vertex != p.vertex {
			t.Fatalf("%v is read as %v and %v, error %d", p, label, vertex, r.Err())
		}
	}
	if r.Done() != api.OK {
		t.Errorf("in the end: error %d", r.Done())
	}
}

// anyBytes returns n byte strings: some by chance readable, most of them with small bytes ahead.
func anyBytes(n int) [][]byte {
	var l [][]byte
	x := uint32(1)
	next := func(below uint32) uint32 {
		x = x*1664525 + 1013904223
		return (x >> 8) % below
	}
	for range n {
		b := make([]byte, next(60))
		small := next(2) == 0
		for i := range b {
			b[i] = byte(next(256))
			if small && next(3) > 0 {
				b[i] = byte(next(20))
			}
		}
		l = append(l, b)
	}
	return l
}

// sameLeft reports whether two readers read the same to their ends.
func sameLeft(a, b *codec.Reader) bool {
	for a.Err() == api.OK && b.Err() == api.OK {
		if a.Done() != b.Done() || a.Num(math.MaxUint64) != b.Num(math.MaxUint64) {
			return false
		}
	}
	return a.Err() == b.Err()
}

// P4.5: what was read is encoded as the bytes that were read: as no others, and as all of them.
func TestReadsAreEncodedAgain(t *testing.T) {
	read := map[string]int{}
	for _, b := range anyBytes(20000) {
		for _, x := range reads() {
			r := codec.Open(b)
			encoding, _ := x.do(r)
			if r.Err() != api.OK {
				continue
			}
			read[x.name]++
			rest, ok := bytes.CutPrefix(b, encoding)
			if !ok || !sameLeft(r, codec.Open(rest)) {
				t.Fatalf("%s of %x reads what is encoded as %x", x.name, b, encoding)
			}
		}
	}
	for _, x := range reads() {
		if read[x.name] < 100 {
			t.Errorf("%s reads just %d of these", x.name, read[x.name])
		}
	}
}

// apart checks that different values have different encodings, of which none begins another one. (In
// order, an encoding that begins others stands right ahead of one of them.)
func apart[V comparable](t *testing.T, what string, values []V, encode func(V) []byte) {
	t.Helper()
	seen := map[V]bool{}
	var l []string
	for _, v := range values {
		if !seen[v] {
			l = append(l, string(encode(v)))
		}
		seen[v] = true
	}
	slices.Sort(l)
	for i := 1; i < len(l); i++ {
		if strings.HasPrefix(l[i], l[i-1]) {
			t.Errorf("%s: %x begins %x", what, l[i-1], l[i])
		}
	}
}

// P4.5: of two different numbers, strings or labels, neither's encoding begins that of the other.
func TestNoEncodingBeginsAnother(t *testing.T) {
	nums, strs := numbers(), texts()
	for n := range uint64(70000) {
		nums = append(nums, n)
	}
	for _, s := range texts() {
		strs = append(strs, s+"\x00", s+s)
	}
	apart(t, "numbers", nums, func(n uint64) []byte { return codec.Num(nil, n) })
	apart(t, "strings", strs, func(s string) []byte { return codec.Text(nil, s) })
	for _, l := range [][]api.Label{labels(-300, 300), labels(math.MinInt, math.MinInt+200), labels(math.MaxInt-200, math.MaxInt-1)} {
		apart(t, "labels", append(l, labels(0, api.MaxLevel)...), func(l api.Label) []byte { return codec.Label(nil, l) })
	}
}

// What is read is not changed, and what becomes of it later changes nothing: it is not kept.
func TestBytesAreNeitherChangedNorKept(t *testing.T) {
	var b []byte
	l, v := api.Label{Level: 3, Comp: 9}, api.Vertex{Patch: api.Hash(mixedBytes(32)), N: 4}
	b = codec.Vertex(codec.Label(codec.Hash(codec.Text(codec.Num(b, 300), "text"), v.Patch), l), v)
	given := bytes.Clone(b)
	r := codec.Open(given)
	clear(given)
	n, s := r.Num(300), r.Text(4)
	if n != 300 || s != "text" || r.Hash() != v.Patch || r.Label() != l || r.Vertex() != v || r.Done() != api.OK {
		t.Errorf("a reader hangs on the memory of its bytes: error %d", r.Done())
	}
	given = bytes.Clone(b)
	for _, x := range reads() {
		x.do(codec.Open(given))
		x.do(codec.Open(given[:len(given)-1]))
	}
	if !bytes.Equal(given, b) {
		t.Errorf("bytes that are read are changed")
	}
}

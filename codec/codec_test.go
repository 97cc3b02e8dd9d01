package codec_test

import (
	"bytes"
	"encoding/binary"
	"encoding/hex"
	"math"
	"strings"
	"testing"

	"redwax/api"
	"redwax/codec"
)

func unhex(s string) []byte {
	b, err := hex.DecodeString(strings.ReplaceAll(s, " ", ""))
	if err != nil {
		panic(err)
	}
	return b
}

// mixedBytes returns n bytes that differ along the way.
func mixedBytes(n int) []byte {
	b := make([]byte, n)
	for i := range b {
		b[i] = byte(i*i + 7*i + n + 1)
	}
	return b
}

// numbers are those around which an encoding gets longer, the ends, and some between.
func numbers() []uint64 {
	l := []uint64{0, 1, 2, 5, 100, 300, 1000000, 1<<64 - 1}
	for digits := 1; digits <= 9; digits++ {
		edge := uint64(1) << (7 * digits)
		l = append(l, edge-1, edge, edge+1, edge+edge/2)
	}
	for bit := range 64 {
		l = append(l, 1<<bit, math.MaxUint64>>bit, math.MaxUint64<<bit, math.MaxUint64-1<<bit)
	}
	return l
}

func texts() []string {
	l := []string{"", "a", "b", "ab", "ba", "\x00", "\x00\x00", "\x02ab", "\xff\xfe", "h\u00e9", "\x80\x01"}
	for _, n := range []int{60, 126, 127, 128, 129, 300, 16383, 16384, 20000} {
		l = append(l, string(mixedBytes(n)))
	}
	return l
}

func hashes() []api.Hash {
	return []api.Hash{{}, {0: 1}, {31: 1}, api.Hash(mixedBytes(32)), api.Hash(bytes.Repeat([]byte{255}, 32))}
}

func comps() []uint64 {
	return []uint64{0, 1, 0x1f, 0x80, 0x100, 0x0102030405060708, 1 << 63, math.MaxUint64}
}

// labels returns the labels of all levels from low to high.
func labels(low, high int) []api.Label {
	var l []api.Label
	for level := low; level <= high; level++ {
		for _, c := range comps() {
			l = append(l, api.Label{Level: level, Comp: c})
		}
	}
	return l
}

// readable are vertices whose encodings can be read.
func readable() []api.Vertex {
	var l []api.Vertex
	for _, h := range hashes() {
		for _, n := range []int{api.End, api.Root, 0, 1, 2, 63, 125, 126, 127, 300, 1 << 20, 1<<32 - 3, 1<<32 - 2} {
			l = append(l, api.Vertex{Patch: h, N: n})
		}
	}
	return l
}

// fronts are what an encoding may stand behind.
func fronts() [][]byte {
	return [][]byte{nil, {}, {0}, {128}, []byte("ab"), mixedBytes(31), mixedBytes(300)}
}

// behindAll checks what a function returns behind each of the fronts.
func behindAll(t *testing.T, what string, value any, add func([]byte) []byte, want []byte) {
	t.Helper()
	for _, front := range fronts() {
		if got, want := add(front), append(bytes.Clone(front), want...); !bytes.Equal(got, want) {
			t.Errorf("%s of %v behind %x: %x, not %x", what, value, front, got, want)
		}
	}
}

// P4.1 to P4.3: the chapter's examples.
func TestExamples(t *testing.T) {
	for n, want := range map[uint64]string{0: "00", 127: "7f", 128: "80 01", 300: "ac 02"} {
		if got := codec.Num(nil, n); !bytes.Equal(got, unhex(want)) {
			t.Errorf("%d is encoded as %x, not %s", n, got, want)
		}
	}
	if got := codec.Text(nil, "ab"); !bytes.Equal(got, unhex("02 61 62")) {
		t.Errorf("ab is encoded as %x", got)
	}
	if got := codec.Label(nil, api.Label{Level: 3, Comp: 0x1f}); !bytes.Equal(got, unhex("03 00 00 00 00 00 00 00 1f")) {
		t.Errorf("the label {3, 1f} is encoded as %x", got)
	}
	for _, s := range []string{"80 00", "80", "ff ff ff ff ff ff ff ff ff 02"} {
		r := codec.Open(unhex(s))
		if n := r.Num(math.MaxUint64); n != 0 || r.Err() != api.ErrForm {
			t.Errorf("%s is read as %d, error %d", s, n, r.Err())
		}
	}
}

// P4.1: Num.
func TestNum(t *testing.T) {
	for n, want := range map[uint64]string{
		0: "00", 1: "01", 127: "7f", 128: "80 01", 255: "ff 01", 300: "ac 02", 16383: "ff 7f", 16384: "80 80 01",
		1<<63 - 1: "ff ff ff ff ff ff ff ff 7f",
		1 << 63:   "80 80 80 80 80 80 80 80 80 01",
		1<<64 - 1: "ff ff ff ff ff ff ff ff ff 01",
	} {
		behindAll(t, "Num", n, func(b []byte) []byte { return codec.Num(b, n) }, unhex(want))
	}
	for _, n := range numbers() {
		behindAll(t, "Num", n, func(b []byte) []byte { return codec.Num(b, n) }, binary.AppendUvarint(nil, n))
	}
}

// P4.1: Text, of bytes of all kinds.
func TestText(t *testing.T) {
	for _, s := range texts() {
		want := append(binary.AppendUvarint(nil, uint64(len(s))), s...)
		behindAll(t, "Text", len(s), func(b []byte) []byte { return codec.Text(b, s) }, want)
	}
	if got := codec.Text(nil, strings.Repeat("x", 128)); !bytes.HasPrefix(got, unhex("80 01 78")) || len(got) != 130 {
		t.Errorf("128 bytes are encoded as %x", got)
	}
}

// P4.1: Hash.
func TestHash(t *testing.T) {
	for _, h := range hashes() {
		behindAll(t, "Hash", h, func(b []byte) []byte { return codec.Hash(b, h) }, h[:])
	}
}

// P4.1: Label, of valid labels.
func TestLabel(t *testing.T) {
	for _, l := range labels(0, api.MaxLevel) {
		want := binary.BigEndian.AppendUint64([]byte{byte(l.Level)}, l.Comp)
		behindAll(t, "Label", l, func(b []byte) []byte { return codec.Label(b, l) }, want)
	}
}

// P4.1: Label, of labels that are not valid.
func TestLabelThatIsNotValid(t *testing.T) {
	for level, want := range map[int]string{
		-1:                    "ff ff ff ff ff ff ff ff ff 01",
		-2:                    "fe ff ff ff ff ff ff ff ff 01",
		-128:                  "80 ff ff ff ff ff ff ff ff 01",
		math.MinInt:           "80 80 80 80 80 80 80 80 80 01",
		api.MaxLevel + 1:      "10",
		127:                   "7f",
		128:                   "80 01",
		math.MaxInt:           "ff ff ff ff ff ff ff ff 7f",
		math.MinInt + 1<<62:   "80 80 80 80 80 80 80 80 c0 01",
		api.MaxLevel + 1<<32:  "8f 80 80 80 10",
		-api.MaxLevel - 1<<40: "f1 ff ff ff ff df ff ff ff 01",
	} {
		for _, c := range comps() {
			l := api.Label{Level: level, Comp: c}
			want := binary.BigEndian.AppendUint64(unhex(want), c)
			behindAll(t, "Label", l, func(b []byte) []byte { return codec.Label(b, l) }, want)
		}
	}
}

// P4.1: Vertex; below -2 modulo 2^64, and nowhere else.
func TestVertex(t *testing.T) {
	for n, want := range map[int]string{
		-3:              "ff ff ff ff ff ff ff ff ff 01",
		-4:              "fe ff ff ff ff ff ff ff ff 01",
		math.MinInt:     "82 80 80 80 80 80 80 80 80 01",
		-2:              "00",
		-1:              "01",
		0:               "02",
		1:               "03",
		125:             "7f",
		126:             "80 01",
		1<<32 - 2:       "80 80 80 80 10",
		1<<32 - 1:       "81 80 80 80 10",
		math.MaxInt - 2: "ff ff ff ff ff ff ff ff 7f",
		math.MaxInt - 1: "80 80 80 80 80 80 80 80 80 01",
		math.MaxInt:     "81 80 80 80 80 80 80 80 80 01",
	} {
		for _, h := range hashes() {
			v := api.Vertex{Patch: h, N: n}
			behindAll(t, "Vertex", v, func(b []byte) []byte { return codec.Vertex(b, v) }, append(h[:], unhex(want)...))
		}
	}
}

// encoders are the five functions, each with a value whose encoding is not empty.
func encoders() map[string]func([]byte) []byte {
	return map[string]func([]byte) []byte{
		"Num":    func(b []byte) []byte { return codec.Num(b, 300) },
		"Text":   func(b []byte) []byte { return codec.Text(b, "text") },
		"Text0":  func(b []byte) []byte { return codec.Text(b, "") },
		"Hash":   func(b []byte) []byte { return codec.Hash(b, api.Hash(mixedBytes(32))) },
		"Label":  func(b []byte) []byte { return codec.Label(b, api.Label{Level: 7, Comp: 0x1f1f}) },
		"Vertex": func(b []byte) []byte { return codec.Vertex(b, api.Vertex{Patch: api.Hash(mixedBytes(32)), N: 9}) },
	}
}

// What an encoding is put behind is not changed, nor what stands behind that in its memory.
func TestFrontsAreLeftAlone(t *testing.T) {
	for name, add := range encoders() {
		for _, n := range []int{0, 1, 5, 64} {
			b := mixedBytes(n + 100)
			add(b[:n])
			if !bytes.Equal(b, mixedBytes(n+100)) {
				t.Errorf("%s behind %d bytes writes into its argument", name, n)
			}
		}
	}
}

// What is returned is new memory, so that two encodings behind the same bytes are apart.
func TestEncodingsAreNew(t *testing.T) {
	for name, add := range encoders() {
		for _, n := range []int{0, 1, 5, 64} {
			front := mixedBytes(n + 100)[:n]
			first := add(front)
			want := bytes.Clone(first)
			second := add(front)
			clear(second[:cap(second)])
			codec.Text(front, "something else")
			if !bytes.Equal(first, want) || !bytes.Equal(front, mixedBytes(n + 100)[:n]) {
				t.Errorf("%s behind %d bytes: two answers share memory", name, n)
			}
			clear(front)
			if !bytes.Equal(first, want) {
				t.Errorf("%s behind %d bytes: the answer hangs on the argument's memory", name, n)
			}
		}
	}
}

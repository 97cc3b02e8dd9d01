package patches_test

import (
	"bytes"
	"encoding/binary"
	"encoding/hex"
	"math/rand"
	"reflect"
	"slices"
	"strings"
	"testing"
	"time"

	"redwax/api"
	"redwax/patches"
)

// unhex is the bytes that are written in hexadecimal.
func unhex(s string) []byte {
	b, err := hex.DecodeString(strings.ReplaceAll(s, " ", ""))
	if err != nil {
		panic(err)
	}
	return b
}

// gives checks the error of Get, which has no patch beside it.
func gives(t *testing.T, b []byte, want api.Errno, format string, args ...any) {
	t.Helper()
	wants(t, reads(t, b), want, format, args...)
	p, _ := patches.Get(b)
	wants(t, reflect.DeepEqual(p, api.Patch{}), want != api.OK, format+": no patch", args...)
}

// P18.2: what Get returns of known bytes.
func TestGet(t *testing.T) {
	for _, x := range []struct {
		patch api.Patch
		bytes string
	}{{full(), fullBytes}, {small(), smallBytes}} {
		p, errno := patches.Get(unhex(x.bytes))
		wants(t, errno, api.OK, "Get of %s", x.bytes)
		wants(t, reflect.DeepEqual(p, x.patch), true, "Get of %s", x.bytes)
		wants(t, p.Changes[0].Gone == nil, true, "an empty list is nil")
	}
	gives(t, nil, api.ErrForm, "no bytes")
}

// P18.2: bytes that end too early, and bytes that are left.
func TestCutAndLeft(t *testing.T) {
	for _, s := range []string{fullBytes, smallBytes} {
		b := unhex(s)
		for n := range b {
			gives(t, b[:n], api.ErrForm, "the first %d bytes", n)
			reads(t, b[n:])
			reads(t, slices.Concat(b[:n], b[n+1:]))
			reads(t, slices.Insert(slices.Clone(b), n, 0))
			reads(t, slices.Insert(slices.Clone(b), n, 1))
		}
		for x := range 256 {
			gives(t, append(slices.Clone(b), byte(x)), api.ErrForm, "a byte %d that is left", x)
		}
		gives(t, append(slices.Clone(b), b...), api.ErrForm, "twice the same")
	}
}

// P18.2: each byte of an encoding changed.
func TestChangedBytes(t *testing.T) {
	for i, b := range unhex(smallBytes) {
		for x := range 256 {
			changed := unhex(smallBytes)
			changed[i] = byte(x)
			if errno := reads(t, changed); errno == api.OK && byte(x) != b {
				p, _ := patches.Get(changed)
				wants(t, reflect.DeepEqual(p, small()), false, "byte %d is %d", i, x)
			}
		}
	}
	for i, b := range unhex(fullBytes) {
		for _, x := range []byte{0, 1, 2, 3, 8, 127, 128, 255, b - 1, b + 1, b ^ 128, b ^ 32} {
			changed := unhex(fullBytes)
			changed[i] = x
			reads(t, changed)
		}
	}
}

// behind is bytes that stand behind an origin, a Seq, and the label {0, 0}.
func behind(seq uint64, rest ...[]byte) []byte {
	return slices.Concat(text("x"), binary.AppendUvarint(nil, seq), make([]byte, 9), bytes.Join(rest, nil))
}

// wrong is what stands behind a Seq that is too great, no note and no Deps: what can be read answers
// ErrCount, and what can't be read ErrForm.
func wrong(rest ...[]byte) []byte {
	return behind(1<<20+1, []byte{0, 0}, bytes.Join(rest, nil))
}

// changed is one change of a kind, and what follows the kind.
func changed(kind uint64, rest ...[]byte) []byte {
	return wrong([]byte{1}, binary.AppendUvarint(nil, kind), bytes.Join(rest, nil))
}

// P18.2: what is read ahead of any look at the patch.
func TestReads(t *testing.T) {
	gives(t, wrong([]byte{0}), api.ErrCount, "no changes")
	gives(t, wrong([]byte{1}), api.ErrForm, "a change that is not there")
	for _, kind := range []uint64{0, 8, 9, 127, 128, 300, 65535, 65536} {
		gives(t, changed(kind), api.ErrCount, "the kind %d without fields", kind)
		gives(t, changed(kind, []byte{0}), api.ErrForm, "the kind %d with something behind it", kind)
		gives(t, wrong([]byte{2}, binary.AppendUvarint(nil, kind), unhex("06 01 61")), api.ErrCount, "a tag behind the kind %d", kind)
	}
	for _, kind := range []uint64{65537, 1 << 20, 1 << 32, 1<<32 + 1, 1 << 63, 1<<64 - 1} {
		gives(t, changed(kind), api.ErrForm, "the kind %d", kind)
	}
	a, zero, h := unhex("01 61"), []byte{0}, hash(1)
	vertexOf := func(n uint64) []byte { return binary.AppendUvarint(slices.Clone(h[:]), n) }
	v, l := vertexOf(2), make([]byte, 9)
	for kind, rest := range map[uint64][][]byte{
		1: {a, zero}, 2: {a, zero}, 3: {v}, 4: {a, v, zero}, 5: {v, v, v, zero, zero}, 6: {a}, 7: {a, l},
	} {
		gives(t, changed(kind, rest...), api.ErrCount, "the fields of kind %d", kind)
		for n := range len(bytes.Join(rest, nil)) {
			gives(t, changed(kind, bytes.Join(rest, nil)[:n]), api.ErrForm, "%d bytes of kind %d", n, kind)
		}
		gives(t, changed(kind, bytes.Join(rest, nil), zero), api.ErrForm, "the fields of kind %d, and a byte", kind)
	}
	for n, want := range map[uint64]api.Errno{0: 13, 1: 13, 2: 13, 1 << 32: 13, 1<<32 + 1: 4, 1<<64 - 1: 4} {
		gives(t, changed(3, vertexOf(n)), want, "a File of the number %d", n)
		gives(t, changed(4, a, v, []byte{1}, vertexOf(n)), want, "a Gone of the number %d", n)
		gives(t, changed(5, v, vertexOf(n), v, zero, zero), want, "an Up of the number %d", n)
		gives(t, changed(5, v, v, vertexOf(n), zero, zero), want, "a Down of the number %d", n)
	}
	for level, want := range map[byte]api.Errno{0: 13, 15: 13, 16: 4, 127: 4, 128: 4} {
		gives(t, changed(7, a, []byte{level}, l[1:]), want, "a rule of level %d", level)
	}
	for seq, want := range map[uint64]api.Errno{1<<20 + 1: 13, 1 << 32: 13, 1<<32 + 1: 4, 1<<64 - 1: 4} {
		gives(t, behind(seq, zero, zero, zero), want, "the Seq %d", seq)
	}
	gives(t, slices.Concat(a, zero, []byte{16}, l[1:], zero, zero, zero), api.ErrForm, "the level 16")
	gives(t, slices.Concat(a, unhex("80 00"), l, zero, zero, []byte{1}, unhex("06 01 61")), api.ErrForm, "a Seq of two bytes that is 0")
	gives(t, slices.Concat(a, zero, l, zero, zero, []byte{1}, unhex("06 01 61")), api.OK, "a Seq of one byte")
}

// P18.2: counts that are greater than what follows, and strings that are longer.
func TestCounts(t *testing.T) {
	zero, v := []byte{0}, append(make([]byte, 32), 2)
	for _, n := range []uint64{1, 2, 127, 128, 65535, 65536, 65537, 1 << 32, 1 << 63, 1<<64 - 1} {
		count := binary.AppendUvarint(nil, n)
		gives(t, count, api.ErrForm, "an origin of %d", n)
		gives(t, behind(0, count), api.ErrForm, "a note of %d", n)
		gives(t, behind(0, zero, count), api.ErrForm, "%d Deps", n)
		gives(t, wrong(count), api.ErrForm, "%d changes", n)
		gives(t, changed(6, count), api.ErrForm, "a path of %d", n)
		gives(t, changed(1, []byte{0}, count), api.ErrForm, "%d lines", n)
		gives(t, changed(1, []byte{0, 1}, count), api.ErrForm, "a line of %d", n)
		gives(t, changed(4, zero, v, count), api.ErrForm, "%d Gone", n)
		gives(t, changed(5, v, v, v, count), api.ErrForm, "%d Gone of a hunk", n)
	}
}

// P18.2: 2^16 bytes and one more; many of the least changes, lines, Deps.
func TestGetLength(t *testing.T) {
	for _, n := range []int{65535, 65536, 65537, 65538, 69000} {
		want, wantZeros := api.OK, api.ErrForm
		if n > 65536 {
			want, wantZeros = api.ErrLong, api.ErrLong
		}
		gives(t, bytesOf(sized(n)), want, "%d bytes", n)
		gives(t, make([]byte, n), wantZeros, "%d zeros", n)
	}
	head := behind(0, []byte{0, 0})
	few := func(n int) []byte { return binary.AppendUvarint(nil, uint64(n)) }
	for _, n := range []int{1, 64, 65, 128, 60000} {
		want := api.ErrForm
		if n > 64 {
			want = api.ErrLong
		}
		gives(t, slices.Concat(head, few(n), make([]byte, n)), want, "%d changes of no kind", n)
		gives(t, slices.Concat(head, few(n), make([]byte, n-1)), api.ErrForm, "%d changes of no kind, and one less", n)
		want = api.OK
		if n > 256 {
			want = api.ErrLong
		}
		gives(t, slices.Concat(head, unhex("01 01 01 61"), few(n), make([]byte, n)), want, "%d empty lines", n)
	}
	deps := behind(0, []byte{0}, few(2000), make([]byte, 64000), unhex("01 06 01 61"))
	gives(t, deps, api.ErrLong, "2000 Deps that are equal")
}

// P18.4: encodings that are damaged somehow, and random bytes; what is got is put as it was.
func TestRandomBytes(t *testing.T) {
	random := rand.New(rand.NewSource(184))
	read := 0
	for range 4000 {
		b := bytesOf(randomPatch(random))
		for range 1 + random.Intn(3) {
			i := random.Intn(len(b))
			switch random.Intn(5) {
			case 0:
				b[i] = byte(random.Intn(256))
			case 1:
				b[i] = byte(random.Intn(10))
			case 2:
				b = slices.Insert(b, i, byte(random.Intn(10)))
			case 3:
				b = append(b[:i], b[i:min(len(b), i+1+random.Intn(33))]...)
			case 4:
				b[i] ^= 1
			}
		}
		if reads(t, b) == api.OK {
			read++
		}
	}
	if read < 200 {
		t.Errorf("just %d of these can be got", read)
	}
	for range 20000 {
		b := make([]byte, random.Intn(40))
		for i := range b {
			b[i] = byte(random.Intn(9))
		}
		reads(t, behind(0, b))
		reads(t, b)
	}
}

// variants are patches that all differ, most of them in a little thing alone.
func variants() []api.Patch {
	var l []api.Patch
	with := func(from api.Patch, do func(p *api.Patch)) {
		p := copied(from)
		do(&p)
		l = append(l, p)
	}
	for _, s := range []string{"a", "ab", "b", "abc", "A"} {
		with(small(), func(p *api.Patch) { p.Origin = s })
		with(small(), func(p *api.Patch) { p.Note = s })
		with(small(), func(p *api.Patch) { p.Changes[0].Path = s })
		with(small(), func(p *api.Patch) { p.Changes[0].Lines = []string{s} })
		with(small(), func(p *api.Patch) { p.Changes[0].Lines = []string{"", s} })
		with(small(), func(p *api.Patch) { p.Changes[0].Lines = []string{s, ""} })
		with(small(), func(p *api.Patch) { p.Changes[0] = api.Change{Kind: 6, Path: s} })
		with(small(), func(p *api.Patch) { p.Changes[0] = api.Change{Kind: 2, Path: s} })
		with(of(api.Change{Kind: 7}), func(p *api.Patch) { p.Changes[0].Path = s })
	}
	for i := range 8 {
		with(small(), func(p *api.Patch) { p.Seq = 1 << i })
		with(small(), func(p *api.Patch) { p.Label.Level = 2 + i })
		with(small(), func(p *api.Patch) { p.Label.Comp = 1 << (i * 9) })
		with(small(), func(p *api.Patch) { p.Deps = rising(1 + i) })
		with(small(), func(p *api.Patch) { p.Deps = []api.Hash{hash(byte(1 + i))} })
		with(full(), func(p *api.Patch) { p.Changes = append(p.Changes[:i], p.Changes[i+1:]...) })
		with(full(), func(p *api.Patch) { p.Changes[8].Label.Level = 4 + i })
		with(full(), func(p *api.Patch) { p.Changes[8].Label.Comp = 2 << i })
		for _, change := range []int{2, 3, 4, 5} {
			with(full(), func(p *api.Patch) { p.Changes[change].File.N = 10 + i })
			with(full(), func(p *api.Patch) { p.Changes[change].File.Patch[4*i] = 9 })
		}
		with(full(), func(p *api.Patch) { p.Changes[4].Up = at(9, i) })
		with(full(), func(p *api.Patch) { p.Changes[4].Down = at(9, i) })
		with(full(), func(p *api.Patch) { p.Changes[4].Gone = []api.Vertex{at(9, i)} })
		with(full(), func(p *api.Patch) { p.Changes[3].Gone = []api.Vertex{at(9, i)} })
		with(full(), func(p *api.Patch) { p.Changes[5].Gone = []api.Vertex{at(9, i)} })
	}
	return append(l, small(), full())
}

// P18.4: different patches have different encodings, and different ids.
func TestDifferentPatches(t *testing.T) {
	l := variants()
	random := rand.New(rand.NewSource(1844))
	for range 500 {
		l = append(l, randomPatch(random))
	}
	seen, ids := map[string]api.Patch{}, map[api.Hash]int{}
	for _, p := range l {
		b, errno := patches.Put(p)
		wants(t, errno, api.OK, "Put of %v", p)
		other, ok := seen[string(b)]
		if ok && !reflect.DeepEqual(plainly(other), plainly(p)) {
			t.Errorf("%v and %v have one encoding", other, p)
		}
		seen[string(b)] = p
		ids[patches.ID(p)]++
	}
	wants(t, len(ids), len(seen), "how many ids there are")
	if len(seen) < len(variants())+300 {
		t.Errorf("there are just %d different patches", len(seen))
	}
}

// What is returned is new memory: it shares none with an argument, nor do two lists of one answer.
func TestMemory(t *testing.T) {
	p := full()
	b, _ := patches.Put(p)
	again, _ := patches.Put(p)
	clear(again[:cap(again)])
	wants(t, hex.EncodeToString(b), fullBytes, "Put, when another answer was changed")
	got, errno := patches.Get(b)
	clear(b)
	wants(t, errno, api.OK, "Get")
	wants(t, reflect.DeepEqual(got, full()), true, "Get, when its bytes were changed")
	for i := range got.Changes {
		c := &got.Changes[i]
		c.Gone = append(c.Gone, api.Vertex{N: 99})
		c.Lines = append(c.Lines, "more")
	}
	got.Deps = append(got.Deps, api.Hash{9: 9})
	for i, c := range full().Changes {
		wants(t, slices.Equal(got.Changes[i].Gone, append(c.Gone, api.Vertex{N: 99})), true, "Gone of change %d, extended", i)
		wants(t, slices.Equal(got.Changes[i].Lines, append(c.Lines, "more")), true, "Lines of change %d, extended", i)
	}
	other, _ := patches.Get(unhex(fullBytes))
	wants(t, reflect.DeepEqual(other, full()), true, "Get, when another answer was changed")
}

// What is hard to read is read soon.
func TestGreatBytes(t *testing.T) {
	began := time.Now()
	many := behind(0, []byte{0, 0}, binary.AppendUvarint(nil, 65000), make([]byte, 65000))
	none := behind(0, []byte{0, 0}, binary.AppendUvarint(nil, 65536), make([]byte, 60000))
	whole := bytesOf(sized(65536))
	for range 20 {
		for b, want := range map[string]api.Errno{string(many): 3, string(none): 4, string(whole): 0} {
			_, errno := patches.Get([]byte(b))
			wants(t, errno, want, "%d bytes", len(b))
		}
	}
	if d := time.Since(began); d > 20*time.Second {
		t.Errorf("it took %v", d)
	}
}

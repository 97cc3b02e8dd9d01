package patches_test

import (
	"crypto/sha256"
	"encoding/hex"
	"math"
	"math/rand"
	"slices"
	"strings"
	"testing"

	"redwax/api"
	"redwax/patches"
)

// hash is 32 times the same byte.
func hash(b byte) api.Hash {
	var h api.Hash
	for i := range h {
		h[i] = b
	}
	return h
}

// at is a vertex of the patch hash(b).
func at(b byte, n int) api.Vertex {
	return api.Vertex{Patch: hash(b), N: n}
}

// full is a patch with changes of all kinds, some of them with much that is just allowed.
func full() api.Patch {
	return api.Patch{
		Origin: "main", Seq: 1000, Note: "a note, ~", Deps: []api.Hash{hash(1), hash(2)},
		Changes: []api.Change{
			{Kind: 1, Path: "src/a", Lines: []string{"x", "", "\ty ~"}},
			{Kind: 2, Path: "b"},
			{Kind: 3, File: at(1, 300)},
			{Kind: 4, File: at(1, 0), Path: "c/d", Gone: []api.Vertex{at(1, 0), at(2, 5)}},
			{Kind: 5, File: at(1, 0), Up: root, Down: at(2, 4294967294), Gone: []api.Vertex{at(1, 1), at(1, 2), at(3, 0)}},
			{Kind: 5, File: at(2, 0), Up: at(1, 3), Down: end, Lines: []string{"========", "z"}},
			{Kind: 6, Path: "v1.0"},
			{Kind: 7, Path: "", Label: api.Label{Level: 15, Comp: math.MaxUint64}},
			{Kind: 7, Path: "secret", Label: api.Label{Level: 3, Comp: 1}},
		},
	}
}

// The encoding of full, and its digest, as another program worked them out.
const (
	fullBytes = "046d61696ee8070000000000000000000961206e6f74652c207e0201010101010101010101010101010101010101010101010101010101010101" +
		"0102020202020202020202020202020202020202020202020202020202020202020901057372632f6103017800040979207e0201620003010101" +
		"0101010101010101010101010101010101010101010101010101010101ae020403632f6401010101010101010101010101010101010101010101" +
		"01010101010101010101020201010101010101010101010101010101010101010101010101010101010101010202020202020202020202020202" +
		"02020202020202020202020202020202020202070501010101010101010101010101010101010101010101010101010101010101010200000000" +
		"00000000000000000000000000000000000000000000000000000000010202020202020202020202020202020202020202020202020202020202" +
		"02020280808080100301010101010101010101010101010101010101010101010101010101010101010301010101010101010101010101010101" +
		"01010101010101010101010101010101040303030303030303030303030303030303030303030303030303030303030303020005020202020202" +
		"02020202020202020202020202020202020202020202020202020201010101010101010101010101010101010101010101010101010101010101" +
		"01050000000000000000000000000000000000000000000000000000000000000000000002083d3d3d3d3d3d3d3d017a060476312e3007000fff" +
		"ffffffffffffff0706736563726574030000000000000001"
	fullID = "991a56c7a42153aa854b26f69f694b7eb443a0c8a92356f800e1c10c93807b46"

	smallBytes = "01780001000000000000001f0000010103612f62010178"
	smallID    = "b5ede3a887b7c3cf4bfd186a55f63a283cd8034bf9163003297d35a8c19c0402"
)

// small is a patch in the label {1, 1f} that adds a/b with the line x.
func small() api.Patch {
	return api.Patch{Origin: "x", Label: api.Label{Level: 1, Comp: 0x1f}, Changes: []api.Change{{Kind: 1, Path: "a/b", Lines: []string{"x"}}}}
}

// of is a patch with these changes, in the label {0, 0}.
func of(changes ...api.Change) api.Patch {
	return api.Patch{Origin: "main", Changes: changes}
}

// P18.1 to P18.3: the chapter's examples.
func TestExamples(t *testing.T) {
	add := api.Change{Kind: api.CAdd, Path: "a/b", Lines: []string{"x"}}
	wants(t, is(t, of(add)), api.OK, "an addition")
	wants(t, slices.Equal(patches.Numbers(of(add)), []int{0, 2}), true, "its two numbers")
	add.File = at(1, 0)
	wants(t, is(t, of(add)), api.ErrForm, "an addition with a File")
	wants(t, is(t, of(api.Change{Kind: api.CHunk, File: at(1, 0), Up: root, Down: end})), api.ErrForm, "a hunk of nothing")
	wants(t, is(t, of(api.Change{Kind: api.CMove, File: at(1, 0), Path: "a"})), api.ErrForm, "a move without Gone")
	rule := of(api.Change{Kind: api.CRule, Path: "secret", Label: api.Label{Level: 3, Comp: 1}})
	wants(t, is(t, rule), api.OK, "a rule")
	rule.Label = api.Label{Level: 1}
	wants(t, is(t, rule), api.ErrLabel, "a rule in the label {1, 0}")
}

// P18.2: encodings and ids that another program worked out.
func TestKnownBytes(t *testing.T) {
	for _, x := range []struct {
		patch     api.Patch
		bytes, id string
	}{{full(), fullBytes, fullID}, {small(), smallBytes, smallID}} {
		wants(t, is(t, x.patch), api.OK, "%v", x.patch)
		b, errno := patches.Put(x.patch)
		wants(t, errno, api.OK, "Put of %v", x.patch)
		wants(t, hex.EncodeToString(b), x.bytes, "Put of %v", x.patch)
		id := patches.ID(x.patch)
		wants(t, hex.EncodeToString(id[:]), x.id, "ID of %v", x.patch)
	}
}

// P18.1: names.
func TestName(t *testing.T) {
	for s, want := range map[string]bool{
		"": false, "a": true, "main": true, "a/b": false, "/a": false, "a/": false, ".": false, "..": false, ".a": true, "a b": false,
		"-": true, "_": true, "0": true, "v1.0": true, "abcdefghijklmnop": true, "abcdefghijklmnopq": false, "ABCDEFGHIJKLMN/P": false,
		"................": false, "...............x": true, "\u00e9": false, "a\n": false, "a\x00": false, "a~1": false,
	} {
		wants(t, patches.Name(s), want, "Name(%q)", s)
	}
	for n := range 70 {
		wants(t, patches.Name(strings.Repeat("x", n)), n > 0 && n <= 16, "Name of %d bytes", n)
	}
	wants(t, patches.Name(strings.Repeat("x", 1<<24)), false, "Name of many bytes")
	for b := range 256 {
		for _, s := range []string{"", "a", "."} {
			s += string([]byte{byte(b)})
			wants(t, patches.Name(s), isName(s), "Name(%q)", s)
		}
	}
	short := []string{""}
	for i := 0; len(short) < 5000; i++ {
		wants(t, patches.Name(short[i]), isName(short[i]), "Name(%q)", short[i])
		for _, piece := range []string{"a", ".", "/", "~", "bcdefg"} {
			short = append(short, short[i]+piece)
		}
	}
}

// vertices are some of all kinds, from the least to the greatest.
func vertices() []api.Vertex {
	hashes := []api.Hash{{}, {31: 1}, {31: 255}, {30: 1}, {15: 1}, {1: 255}, hash(1), {0: 127, 31: 9}, {0: 128}, {0: 255}, hash(255)}
	slices.SortFunc(hashes, func(a, b api.Hash) int { return strings.Compare(string(a[:]), string(b[:])) })
	var l []api.Vertex
	for _, h := range hashes {
		for _, n := range []int{math.MinInt, -1 << 33, -3, -2, -1, 0, 1, 2, 255, 256, 1<<32 - 3, 1<<32 - 2, 1<<32 - 1, 1 << 32, math.MaxInt} {
			l = append(l, api.Vertex{Patch: h, N: n})
		}
	}
	return l
}

// P18.1: Order, of all pairs.
func TestOrder(t *testing.T) {
	for i, a := range vertices() {
		for j, b := range vertices() {
			want := 0
			if i < j {
				want = -1
			}
			if i > j {
				want = 1
			}
			wants(t, patches.Order(a, b), want, "Order(%v, %v)", a, b)
			wants(t, orderOf(a, b), want, "the words' order of %v, %v", a, b)
		}
	}
}

// P18.3: Numbers, also of what is no valid patch.
func TestNumbers(t *testing.T) {
	is := func(p api.Patch, want ...int) {
		t.Helper()
		before := copied(p)
		got := patches.Numbers(p)
		if !slices.Equal(got, want) {
			t.Errorf("Numbers of %v: %v, not %v", p, got, want)
		}
		clear(got)
		wants(t, slices.Equal(patches.Numbers(p), want) && slices.EqualFunc(p.Changes, before.Changes, func(a, b api.Change) bool {
			return a.Kind == b.Kind && slices.Equal(a.Lines, b.Lines)
		}), true, "Numbers of %v, again", p)
	}
	is(api.Patch{}, 0)
	is(api.Patch{Changes: []api.Change{}}, 0)
	is(full(), 0, 4, 5, 5, 6, 6, 8, 8, 8, 8)
	is(small(), 0, 2)
	lines := []string{"x", "", "z"}
	gone := []api.Vertex{at(1, 0), at(1, 1)}
	for kind, want := range map[int]int{-1: 0, 0: 0, 1: 4, 2: 4, 3: 0, 4: 1, 5: 3, 6: 0, 7: 0, 8: 0, math.MaxInt: 0, math.MinInt: 0} {
		c := api.Change{Kind: kind, Lines: lines, Gone: gone}
		is(api.Patch{Changes: []api.Change{c}}, 0, want)
		is(api.Patch{Changes: []api.Change{{Kind: 4}, c, {Kind: 1}, c}}, 0, 1, 1+want, 2+want, 2+2*want)
	}
	is(of(api.Change{Kind: 1}, api.Change{Kind: 2}, api.Change{Kind: 5}, api.Change{Kind: 4}), 0, 1, 2, 2, 3)
	is(api.Patch{Changes: slices.Repeat([]api.Change{{Kind: 5, Lines: lines}}, 5)}, 0, 3, 6, 9, 12, 15)
	many := patches.Numbers(api.Patch{Changes: slices.Repeat([]api.Change{{Kind: 2, Lines: lines}}, 100000)})
	wants(t, many[100000], 400000, "how many numbers many changes take")
	wants(t, len(many), 100001, "how many numbers are told of many changes")
}

// P18.2: ID is the digest of the encoding, or zero.
func TestID(t *testing.T) {
	random := rand.New(rand.NewSource(182))
	for range 200 {
		p := randomPatch(random)
		wants(t, patches.ID(p), sha256.Sum256(bytesOf(p)), "ID of %v", p)
		p.Seq = -1
		wants(t, patches.ID(p), api.Hash{}, "ID of what is no patch")
	}
	wants(t, patches.ID(api.Patch{}), api.Hash{}, "ID of the zero patch")
	wants(t, patches.ID(sized(65537)), api.Hash{}, "ID of a patch that is too long")
}

// randomChange is a valid change of a patch in the label.
func randomChange(random *rand.Rand, of api.Label) api.Change {
	path := []string{"a", "a/b", "src/x.go", "..a/-", strings.Repeat("p/", 7) + "q"}[random.Intn(5)]
	vertex := func() api.Vertex {
		return at(byte(random.Intn(4)), []int{0, 1, 2, 126, 300, 1<<32 - 2}[random.Intn(6)])
	}
	c := api.Change{Kind: 1 + random.Intn(7)}
	if of != (api.Label{}) {
		c.Kind = 1 + random.Intn(6)
	}
	some := min(random.Intn(4), random.Intn(30))
	switch c.Kind {
	case 1, 2, 4:
		c.Path = path
	case 6:
		c.Path = []string{"t", "v1.0", "abcdefghijklmnop"}[random.Intn(3)]
	case 7:
		c.Path = []string{"", path}[random.Intn(2)]
		c.Label = api.Label{Level: random.Intn(16), Comp: random.Uint64() >> random.Intn(64)}
	}
	if strings.ContainsRune(has[c.Kind], 'f') {
		c.File = vertex()
	}
	if c.Kind == 5 {
		c.Up = []api.Vertex{root, vertex()}[random.Intn(2)]
		c.Down = []api.Vertex{end, vertex()}[random.Intn(2)]
	}
	if strings.ContainsRune(has[c.Kind], 'g') {
		for range some + 1 {
			c.Gone = append(c.Gone, vertex())
		}
		slices.SortFunc(c.Gone, orderOf)
		c.Gone = slices.Compact(c.Gone)
	}
	if strings.ContainsRune(has[c.Kind], 'l') {
		for range random.Intn(4) {
			c.Lines = append(c.Lines, []string{"", "x", "======", "\t", strings.Repeat("~", 80)}[random.Intn(5)])
		}
	}
	if c.Kind == 5 && len(c.Lines) > 0 && random.Intn(2) == 0 {
		c.Gone = []api.Vertex{}
	}
	return c
}

// randomPatch is a valid patch.
func randomPatch(random *rand.Rand) api.Patch {
	p := api.Patch{
		Origin: []string{"main", "a", "copy-2.x", "abcdefghijklmnop"}[random.Intn(4)],
		Seq:    []int{0, 1, 127, 128, 300, 20000, 1 << 20}[random.Intn(7)],
		Note:   []string{"", "first", "a ~", strings.Repeat("n", 60)}[random.Intn(4)],
	}
	if random.Intn(2) == 0 {
		p.Label = api.Label{Level: random.Intn(16), Comp: random.Uint64()}
	}
	for b := range 4 {
		if random.Intn(2) == 0 {
			p.Deps = append(p.Deps, hash(byte(b*80)))
		}
	}
	for range 1 + random.Intn(6) {
		p.Changes = append(p.Changes, randomChange(random, p.Label))
	}
	return p
}

// sized is a patch of fields that are all right, whose encoding has n bytes, of 63000 to 70000.
func sized(n int) api.Patch {
	whole := api.Change{Kind: 1, Path: "a", Lines: slices.Repeat([]string{strings.Repeat("x", 80)}, 256)}
	p := of(whole, whole, whole, api.Change{Kind: 1, Path: "a"})
	left := n - len(bytesOf(p))
	last := &p.Changes[3]
	last.Lines = slices.Repeat([]string{strings.Repeat("x", 80)}, left/81)
	if left%81 > 0 {
		last.Lines = append(last.Lines, strings.Repeat("y", left%81-1))
	}
	return p
}

package patches_test

import (
	"math"
	"math/rand"
	"slices"
	"strings"
	"testing"
	"time"

	"redwax/api"
	"redwax/patches"
)

// damage is something that makes full a patch that is not valid, and the error.
type damage struct {
	name string
	do   func(p *api.Patch)
	want api.Errno
}

// inChange is a damage of the change at index i, if there is one.
func inChange(name string, i int, want api.Errno, do func(c *api.Change)) damage {
	return damage{name, func(p *api.Patch) {
		if i < len(p.Changes) {
			do(&p.Changes[i])
		}
	}, want}
}

// headDamages are those of what is told once in a patch.
func headDamages() []damage {
	return []damage{
		{"no origin", func(p *api.Patch) { p.Origin = "" }, 4},
		{"an origin of two parts", func(p *api.Patch) { p.Origin = "a/b" }, 4},
		{"an origin of 17 bytes", func(p *api.Patch) { p.Origin = "abcdefghijklmnopq" }, 4},
		{"a Seq below 0", func(p *api.Patch) { p.Seq = -1 }, 13},
		{"a Seq above the most", func(p *api.Patch) { p.Seq = 1<<20 + 1 }, 13},
		{"a level of 16", func(p *api.Patch) { p.Label.Level = 16 }, 11},
		{"a level of -1", func(p *api.Patch) { p.Label.Level = -1 }, 11},
		{"a note of 61 bytes", func(p *api.Patch) { p.Note = strings.Repeat("n", 61) }, 3},
		{"a note of 61 wrong bytes", func(p *api.Patch) { p.Note = strings.Repeat("\n", 61) }, 3},
		{"a tab in a note", func(p *api.Patch) { p.Note = "a\tb" }, 4},
		{"257 Deps", func(p *api.Patch) { p.Deps = rising(257) }, 3},
		{"257 Deps that are equal", func(p *api.Patch) { p.Deps = make([]api.Hash, 257) }, 3},
		{"Deps that are equal", func(p *api.Patch) { p.Deps = []api.Hash{hash(1), hash(1)} }, 4},
		{"Deps that fall", func(p *api.Patch) { p.Deps = []api.Hash{hash(1), hash(3), hash(2)} }, 4},
		{"no changes", func(p *api.Patch) { p.Changes = nil }, 4},
		{"65 changes", func(p *api.Patch) { p.Changes = slices.Repeat(p.Changes, 65)[:65*min(1, len(p.Changes))] }, 3},
		{"65 of no kind", func(p *api.Patch) { p.Changes = make([]api.Change, 65) }, 3},
		{"much", func(p *api.Patch) { p.Changes = append(p.Changes, sized(65536).Changes...) }, 3},
		{"another label", func(p *api.Patch) { p.Label = api.Label{Comp: 1} }, 11},
	}
}

// changeDamages are those of the changes of full.
func changeDamages() []damage {
	return []damage{
		inChange("a kind of 0", 0, 4, func(c *api.Change) { c.Kind = 0 }),
		inChange("a kind of 8", 8, 4, func(c *api.Change) { c.Kind = 8 }),
		inChange("a kind below 0", 4, 4, func(c *api.Change) { c.Kind = -5 }),
		inChange("a File", 0, 4, func(c *api.Change) { c.File.N = 1 }),
		inChange("no path of an addition", 0, 15, func(c *api.Change) { c.Path = "" }),
		inChange("no path of a stub", 1, 15, func(c *api.Change) { c.Path = "a//b" }),
		inChange("no path of a move", 3, 15, func(c *api.Change) { c.Path = ".." }),
		inChange("no name of a tag", 6, 4, func(c *api.Change) { c.Path = "a/b" }),
		inChange("no prefix of a rule", 8, 15, func(c *api.Change) { c.Path = "/" }),
		inChange("no label of a rule", 8, 11, func(c *api.Change) { c.Label.Level = 16 }),
		inChange("no label of a rule and no prefix", 7, 15, func(c *api.Change) { c.Label.Level, c.Path = 16, "a b" }),
		inChange("a removal of Root", 2, 4, func(c *api.Change) { c.File = root }),
		inChange("a move of End", 3, 4, func(c *api.Change) { c.File = end }),
		inChange("a hunk of 2^32 - 1", 4, 4, func(c *api.Change) { c.File.N = 1<<32 - 1 }),
		inChange("up is End", 4, 4, func(c *api.Change) { c.Up = end }),
		inChange("up is the Root of a patch", 4, 4, func(c *api.Change) { c.Up.Patch = hash(1) }),
		inChange("down is Root", 5, 4, func(c *api.Change) { c.Down = root }),
		inChange("down is the End of a patch", 5, 4, func(c *api.Change) { c.Down.Patch = hash(1) }),
		inChange("513 go", 4, 3, func(c *api.Change) { c.Gone = going(513) }),
		inChange("513 of Root go", 3, 3, func(c *api.Change) { c.Gone = slices.Repeat([]api.Vertex{root}, 513) }),
		inChange("Root goes", 4, 4, func(c *api.Change) { c.Gone = []api.Vertex{root, at(1, 0)} }),
		inChange("one goes twice", 4, 4, func(c *api.Change) { c.Gone = append(c.Gone, c.Gone[max(0, len(c.Gone)-1):]...) }),
		inChange("what goes falls", 3, 4, func(c *api.Change) { c.Gone = []api.Vertex{at(2, 5), at(1, 0)} }),
		inChange("nothing goes", 3, 4, func(c *api.Change) { c.Gone = nil }),
		inChange("no Gone and no Lines", 5, 4, func(c *api.Change) { c.Gone, c.Lines = nil, nil }),
		inChange("257 lines", 0, 3, func(c *api.Change) { c.Lines = make([]string, 257) }),
		inChange("257 of no lines", 5, 3, func(c *api.Change) { c.Lines = slices.Repeat([]string{"\n"}, 257) }),
		inChange("a marker", 0, 4, func(c *api.Change) { c.Lines = []string{"x", ">>>>>>>"} }),
		inChange("a line of 81 bytes", 5, 4, func(c *api.Change) { c.Lines = []string{strings.Repeat("x", 81)} }),
	}
}

// rising is n Deps.
func rising(n int) []api.Hash {
	l := make([]api.Hash, n)
	for i := range l {
		l[i] = api.Hash{7: byte(i >> 8), 31: byte(i)}
	}
	return l
}

// going is n vertices of Gone.
func going(n int) []api.Vertex {
	l := make([]api.Vertex, n)
	for i := range l {
		l[i] = at(byte(i/100), i)
	}
	return l
}

// P18.1: each error by itself, and any two together: the first one is told.
func TestErrors(t *testing.T) {
	all := append(headDamages(), changeDamages()...)
	for _, a := range all {
		p := copied(full())
		a.do(&p)
		wants(t, is(t, p), a.want, "%s", a.name)
		for _, b := range all {
			p := copied(full())
			a.do(&p)
			b.do(&p)
			is(t, p)
		}
	}
	for i := range full().Changes {
		p := copied(full())
		p.Changes[0], p.Changes[i] = p.Changes[i], p.Changes[0]
		for _, a := range all {
			p := copied(p)
			a.do(&p)
			is(t, p)
		}
	}
}

// P18.1: the limits of what is told once in a patch.
func TestHeadLimits(t *testing.T) {
	for _, seq := range []int{math.MinInt, -1, 0, 1, 1<<20 - 1, 1 << 20, 1<<20 + 1, 1 << 32, 1<<32 + 1, math.MaxInt} {
		p := small()
		p.Seq = seq
		wants(t, is(t, p) == api.OK, seq >= 0 && seq <= 1<<20, "Seq %d", seq)
	}
	for level := -3; level < 20; level++ {
		for _, comp := range []uint64{0, 1, 1 << 63, math.MaxUint64} {
			p := small()
			p.Label = api.Label{Level: level, Comp: comp}
			wants(t, is(t, p) == api.OK, level >= 0 && level <= 15, "%v", p.Label)
			p.Changes = []api.Change{{Kind: 7, Label: api.Label{Level: 1}}}
			wants(t, is(t, p) == api.OK, level == 0 && comp == 0, "a rule in %v", p.Label)
			p = of(api.Change{Kind: 7, Label: api.Label{Level: level, Comp: comp}})
			wants(t, is(t, p) == api.OK, level >= 0 && level <= 15, "a rule of %v", p.Changes[0].Label)
		}
	}
	for n := range 64 {
		p := small()
		p.Note = strings.Repeat("~", n)
		wants(t, is(t, p) == api.OK, n <= 60, "a note of %d bytes", n)
	}
	for b := range 256 {
		p := small()
		for _, note := range []string{"", "note ", "\u00e9"[:1]} {
			p.Note = note + string([]byte{byte(b)})
			wants(t, is(t, p) == api.OK, b >= 32 && b <= 126 && note != "\xc3", "the note %q", p.Note)
		}
	}
	for _, n := range []int{0, 1, 2, 255, 256, 257, 258, 3000} {
		p := small()
		p.Deps = rising(n)
		wants(t, is(t, p) == api.OK, n <= 256, "%d Deps", n)
	}
	for _, n := range []int{0, 1, 2, 63, 64, 65, 3000} {
		p := small()
		p.Changes = slices.Repeat(p.Changes, n)
		wants(t, is(t, p) == api.OK, n >= 1 && n <= 64, "%d changes", n)
	}
}

// P18.1: Deps that differ in one byte are in order by that.
func TestDepsAscend(t *testing.T) {
	for i := range 32 {
		a, b := hash(128), hash(128)
		b[i] = 129
		for _, deps := range [][]api.Hash{{a, b}, {b, a}, {a, a}, {{}, a, b, hash(200)}, {{}, b, a, hash(200)}, {a, b, b}} {
			p := small()
			p.Deps = deps
			is(t, p)
			c := api.Change{Kind: 5, Up: root, Down: end}
			for _, h := range deps {
				c.Gone = append(c.Gone, api.Vertex{Patch: h, N: 10 - len(c.Gone)})
			}
			is(t, of(c))
		}
	}
}

// P18.1: the limits of a change's lists, and of its lines.
func TestListLimits(t *testing.T) {
	for _, n := range []int{0, 1, 2, 511, 512, 513, 514, 3000} {
		wants(t, is(t, of(api.Change{Kind: 4, Path: "a", Gone: going(n)})) == api.OK, n >= 1 && n <= 512, "a move with %d Gone", n)
		wants(t, is(t, of(api.Change{Kind: 5, Up: root, Down: end, Gone: going(n)})) == api.OK, n >= 1 && n <= 512, "a hunk with %d Gone", n)
	}
	for _, n := range []int{0, 1, 2, 127, 128, 255, 256, 257, 258, 3000} {
		lines := slices.Repeat([]string{"x"}, n)
		wants(t, is(t, of(api.Change{Kind: 1, Path: "a", Lines: lines})) == api.OK, n <= 256, "an addition of %d lines", n)
		wants(t, is(t, of(api.Change{Kind: 2, Path: "a", Lines: lines})) == api.OK, n <= 256, "a stub of %d lines", n)
		wants(t, is(t, of(api.Change{Kind: 5, Up: root, Down: end, Lines: lines})) == api.OK, n >= 1 && n <= 256, "a hunk of %d lines", n)
	}
	for b := range 256 {
		is(t, of(api.Change{Kind: 1 + b%2, Path: "a", Lines: []string{"", "x" + string([]byte{byte(b)})}}))
	}
	for _, s := range []string{">>>>>>>", "=======", "<<<<<<<", ">>>>>>", "========", strings.Repeat("x", 80), strings.Repeat("x", 81)} {
		is(t, of(api.Change{Kind: 5, Up: root, Down: end, Lines: []string{s}}))
	}
}

// P18.1: all paths of each kind that has one.
func TestPaths(t *testing.T) {
	long := strings.Repeat("abcdefghi/", 5)
	for _, s := range []string{"", "a", "a/b", "a/b/c/d/e/f/g/h", "a/b/c/d/e/f/g/h/i", "/", "/a", "a/", "a//b", ".", "a/..", "a b", "\x00", "a~1",
		"\u00e9", "abcdefghijklmnop", "abcdefghijklmnopq", long + "abcdefghij", long + "abcdefghijk", strings.Repeat("x", 1<<20)} {
		for kind := 1; kind <= 7; kind++ {
			c := api.Change{Kind: kind, Path: s}
			if kind == 4 {
				c.Gone = going(1)
			}
			errno := is(t, of(c))
			switch kind {
			case 1, 2, 4:
				wants(t, errno == api.ErrPrefix, !isPath(s), "kind %d at %q", kind, s)
			case 6:
				wants(t, errno == api.ErrForm, !isName(s), "the tag %q", s)
			case 7:
				wants(t, errno == api.ErrPrefix, !isPath(s) && s != "", "the rule of %q", s)
			}
		}
	}
}

// P18.1: all vertices, where kinds have them.
func TestVertices(t *testing.T) {
	for _, v := range vertices() {
		plain := v.N >= 0 && v.N <= 1<<32-2
		hunk := api.Change{Kind: 5, Up: root, Down: end, Lines: []string{"x"}}
		move := api.Change{Kind: 4, Path: "a", Gone: []api.Vertex{v}}
		wants(t, is(t, of(move)) == api.OK, plain, "a move with %v in Gone", v)
		move.File, move.Gone = v, going(1)
		wants(t, is(t, of(move)) == api.OK, plain, "a move of %v", v)
		wants(t, is(t, of(api.Change{Kind: 3, File: v})) == api.OK, plain, "a removal of %v", v)
		c := hunk
		c.File = v
		wants(t, is(t, of(c)) == api.OK, plain, "a hunk of %v", v)
		c = hunk
		c.Up = v
		wants(t, is(t, of(c)) == api.OK, plain || v == root, "a hunk behind %v", v)
		c = hunk
		c.Down = v
		wants(t, is(t, of(c)) == api.OK, plain || v == end, "a hunk before %v", v)
		c = hunk
		c.Gone = []api.Vertex{v}
		wants(t, is(t, of(c)) == api.OK, plain, "a hunk with %v in Gone", v)
	}
	some := []api.Vertex{{N: 0}, {N: 1}, {N: 1<<32 - 2}, at(1, 0), at(1, 7), at(1, -1), at(2, 0), root, end}
	for _, a := range some {
		for _, b := range some {
			for _, d := range some {
				is(t, of(api.Change{Kind: 4, Path: "a", Gone: []api.Vertex{a, b, d}}))
				is(t, of(api.Change{Kind: 5, File: at(1, 0), Up: a, Down: b, Gone: []api.Vertex{d}}))
			}
		}
	}
}

// fields are values of a field that are not zero.
func fields() map[rune][]func(c *api.Change) {
	return map[rune][]func(c *api.Change){
		'p': {func(c *api.Change) { c.Path = "a" }},
		'f': {func(c *api.Change) { c.File.Patch[31] = 1 }, func(c *api.Change) { c.File.N = 1 }, func(c *api.Change) { c.File.N = -1 }},
		'u': {func(c *api.Change) { c.Up.Patch[0] = 1 }, func(c *api.Change) { c.Up.N = 1 }, func(c *api.Change) { c.Up = root }},
		'd': {func(c *api.Change) { c.Down.Patch[9] = 1 }, func(c *api.Change) { c.Down.N = 1 }, func(c *api.Change) { c.Down = end }},
		'g': {func(c *api.Change) { c.Gone = []api.Vertex{{}} }, func(c *api.Change) { c.Gone = going(513) }},
		'l': {func(c *api.Change) { c.Lines = []string{""} }, func(c *api.Change) { c.Lines = make([]string, 257) }},
		'b': {func(c *api.Change) { c.Label.Comp = 1 << 63 }, func(c *api.Change) { c.Label.Level = 1 }, func(c *api.Change) { c.Label.Level = -1 }},
	}
}

// P18.1: each kind with each set of fields that are not zero.
func TestFieldsOfOtherKinds(t *testing.T) {
	for kind := -1; kind <= 9; kind++ {
		var try func(c api.Change, left string)
		try = func(c api.Change, left string) {
			if left == "" {
				errno := is(t, of(c))
				p := of(api.Change{Kind: 6, Path: "t"}, c)
				wants(t, is(t, p), errno, "%v behind a tag", c)
				return
			}
			try(c, left[1:])
			fields()[rune(left[0])][0](&c)
			try(c, left[1:])
		}
		try(api.Change{Kind: kind}, letters)
	}
	for letter, sets := range fields() {
		for kind := 1; kind <= 7; kind++ {
			for _, c := range full().Changes {
				if c.Kind != kind || strings.ContainsRune(has[kind], letter) {
					continue
				}
				for _, set := range sets {
					d := c
					set(&d)
					wants(t, is(t, of(d)), api.ErrForm, "%v", d)
				}
			}
		}
	}
}

// P18.1: empty lists are none.
func TestEmptyLists(t *testing.T) {
	p := full()
	for i := range p.Changes {
		c := &p.Changes[i]
		if len(c.Gone) == 0 {
			c.Gone = []api.Vertex{}
		}
		if len(c.Lines) == 0 {
			c.Lines = []string{}
		}
	}
	wants(t, is(t, p), api.OK, "a patch with empty lists")
	wants(t, patches.ID(p), patches.ID(full()), "its id")
	q := small()
	q.Deps = []api.Hash{}
	wants(t, is(t, q), api.OK, "a patch with empty Deps")
	wants(t, is(t, of(api.Change{Kind: 4, Path: "a", Gone: []api.Vertex{}})), api.ErrForm, "a move with an empty Gone")
	q.Changes = []api.Change{}
	wants(t, is(t, q), api.ErrForm, "a patch with empty changes")
}

// P18.1: the encoding's length, whose error is the last one.
func TestLength(t *testing.T) {
	for _, n := range []int{65000, 65535, 65536, 65537, 65538, 69000} {
		p := sized(n)
		want := api.OK
		if n > 65536 {
			want = api.ErrLong
		}
		wants(t, len(bytesOf(p)), n, "the length of a patch")
		wants(t, is(t, p), want, "a patch of %d bytes", n)
		p.Changes[3].Lines[0] = ">>>>>>>"
		wants(t, is(t, p), api.ErrForm, "a patch of about %d bytes with a marker", n)
	}
	most := api.Change{Kind: 5, Up: root, Down: end, Gone: going(512), Lines: slices.Repeat([]string{strings.Repeat("x", 80)}, 256)}
	p := of(slices.Repeat([]api.Change{most}, 64)...)
	wants(t, is(t, p), api.ErrLong, "as much as changes may have")
	p.Changes[63] = api.Change{Kind: 1, Path: "a//b"}
	wants(t, is(t, p), api.ErrPrefix, "as much, with a wrong change at the end")
}

// P18.1: random patches with random faults.
func TestRandom(t *testing.T) {
	random := rand.New(rand.NewSource(181))
	for range 3000 {
		p := randomPatch(random)
		wants(t, is(t, p), api.OK, "%v", p)
		if len(p.Changes) > 1 {
			other := randomPatch(random).Changes[0]
			p.Changes[random.Intn(len(p.Changes))].Kind = other.Kind
			is(t, p)
			p.Changes[random.Intn(len(p.Changes))].Gone = other.Gone
			is(t, p)
		}
	}
}

// Many elements of each list are told of soon.
func TestGreatPatches(t *testing.T) {
	began := time.Now()
	const many = 1 << 21
	for _, p := range []api.Patch{
		{Origin: strings.Repeat("x", many), Changes: small().Changes},
		{Origin: "x", Note: strings.Repeat("x", many), Changes: small().Changes},
		{Origin: "x", Deps: make([]api.Hash, many), Changes: small().Changes},
		{Origin: "x", Changes: make([]api.Change, many/8)},
		of(api.Change{Kind: 5, Gone: make([]api.Vertex, many)}),
		of(api.Change{Kind: 5, Lines: make([]string, many)}),
		of(api.Change{Kind: 5, Lines: []string{strings.Repeat("x", many)}}),
		of(api.Change{Kind: 6, Path: strings.Repeat("x", many)}),
	} {
		wants(t, patches.Check(p) != api.OK, true, "a great patch has an error")
	}
	least := of(slices.Repeat([]api.Change{{Kind: 1, Path: "a", Lines: make([]string, 256)}}, 64)...)
	for range 200 {
		wants(t, patches.Check(least), api.OK, "as many lines as can be")
	}
	if d := time.Since(began); d > 10*time.Second {
		t.Errorf("it took %v", d)
	}
}

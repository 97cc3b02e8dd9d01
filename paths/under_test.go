package paths_test

import (
	"slices"
	"strings"
	"testing"
	"unsafe"

	"redwax/paths"
)

// covers goes by parts: those of the prefix are the first ones of the path.
func covers(prefix, path string) bool {
	if !isPath(path) {
		return false
	}
	if prefix == "" {
		return true
	}
	first, all := strings.Split(prefix, "/"), strings.Split(path, "/")
	return isPath(prefix) && len(first) <= len(all) && slices.Equal(first, all[:len(first)])
}

// P6.2: prefixes and paths.
func TestUnder(t *testing.T) {
	x := strings.Repeat("x", 58)
	for _, c := range []struct {
		prefix, path string
		covers       bool
	}{
		// the empty prefix
		{"", "a", true}, {"", "a/b", true}, {"", x + "/y", true}, {"", "a/b/c/d/e/f/g/h", true},
		// the same path
		{"a", "a", true}, {"a/b", "a/b", true}, {"a.b", "a.b", true}, {x, x, true}, {x + "/y", x + "/y", true},
		// a path that goes on behind a slash
		{"a", "a/b", true}, {"a", "a/b/c", true}, {"a/b", "a/b/c", true}, {"a", "a/a", true}, {x, x + "/y", true}, {"a/b/c/d/e/f/g", "a/b/c/d/e/f/g/h", true},
		// a path that goes on without one
		{"a", "ab", false}, {"a", "a.b", false}, {"a", "a-", false}, {"a", "aa", false}, {"a", "ab/a", false}, {"a/b", "a/bc", false}, {"a/b", "a/bc/d", false}, {"a", "a..b", false},
		// a prefix that is longer, or that only ends like the path
		{"a/b", "a", false}, {"ab", "a", false}, {"a/b/c", "a/b", false}, {"b", "a/b", false}, {"a/b", "b", false}, {"b", "a", false}, {"b", "a/b/c", false}, {"a/b", "x/a/b", false},
		// other letters
		{"A", "a", false}, {"a", "A/b", false}, {"a/c", "a/b", false}, {"a-b", "a/b", false}, {"a.b", "a/b", false}, {"a_b", "a-b", false},
	} {
		if got := paths.Under(c.prefix, c.path); got != c.covers {
			t.Errorf("Under(%q, %q) = %t", c.prefix, c.path, got)
		}
	}
}

// P6.2: a prefix or a path that is none, though both be the same, or one begin with the other.
func TestUnderOfNone(t *testing.T) {
	long := strings.Repeat("x", 61)
	for _, c := range [][2]string{
		// no path
		{"", ""}, {"a", ""}, {"", "/"}, {"", "/a"}, {"", "a/"}, {"a", "a/"}, {"a", "a//b"}, {"a", "a/b/"}, {"a", "a/."}, {"a", "a/.."}, {"a", "a/../b"},
		{"", "."}, {"", ".."}, {"", "a b"}, {"a", "a/b c"}, {"", "\u00e9"}, {"a", "a/\xff"}, {"a", "a/\x00"}, {"a", "a\x00"}, {"", long}, {"a", "a/" + long},
		{"1", "1/2/3/4/5/6/7/8/9"}, {"", "1/2/3/4/5/6/7/8/9"}, {"xx", "xx/" + long[:58]},
		// no prefix
		{"a/", "a"}, {"a/", "a/b"}, {"/", "a"}, {"/", "/a"}, {"/a", "a"}, {"a//", "a/b"}, {".", "a"}, {"..", "a"}, {"./a", "a"}, {".", ".a"}, {" ", "a"}, {"a ", "a"},
		{"\x00", "a"}, {"a\x00", "a"}, {"\xff", "a"}, {long, "a"}, {long, long[:60]}, {"*", "a"}, {"a/*", "a/b"}, {"a/b/", "a/b/c"},
		// both
		{"/", "/"}, {".", "."}, {".", "./a"}, {"..", "../a"}, {"a b", "a b"}, {"a b", "a b/c"}, {"/a", "/a"}, {"/a", "/a/b"}, {"a/", "a/"}, {"a/", "a//b"},
		{"\u00e9", "\u00e9"}, {"\u00e9", "\u00e9/a"}, {"\xff", "\xff"}, {long, long}, {long, long + "/a"},
	} {
		if paths.Under(c[0], c[1]) {
			t.Errorf("%q is covered by %q", c[1], c[0])
		}
	}
}

// P6.2: all pairs of short strings.
func TestUnderOfAllShortStrings(t *testing.T) {
	for _, some := range []string{"a./b", "a/"} {
		all := shortStrings(some, 16/len(some))
		for _, prefix := range all {
			for _, path := range all {
				if got := paths.Under(prefix, path); got != covers(prefix, path) {
					t.Fatalf("Under(%q, %q) = %t", prefix, path, got)
				}
			}
		}
	}
}

// P6.3: the chapter's words, byte by byte.
func orderOf(a, b string) int {
	for i := range min(len(a), len(b)) {
		if a[i] < b[i] {
			return -1
		}
		if a[i] > b[i] {
			return 1
		}
	}
	switch {
	case len(a) < len(b):
		return -1
	case len(a) > len(b):
		return 1
	}
	return 0
}

// P6.3: strings in order, whether or not they are paths.
func TestOrder(t *testing.T) {
	inOrder := []string{
		"", "\x00", "\x00\x00", "\x00a", " ", "-", ".", "/", "/a", "0", "10", "2", "9", "A", "AB", "B", "Z", "_",
		"a", "a\x00", "a b", "a-b", "a.b", "a/", "a/b", "a/b/c", "a0", "aB", "aa", "aaa", "ab", "a\u00e9", "a\xff", "b", "z", "\x7f",
		"\x80", "\x80a", "\x81", "\xc0\xaf", "\u00e9", "\u00e9a", "\uffff", "\U0001f600", "\xfe", "\xff", "\xff\x00", "\xff\xff",
	}
	for i, a := range inOrder {
		for j, b := range inOrder {
			want := 0
			if i < j {
				want = -1
			} else if i > j {
				want = 1
			}
			if got := paths.Order(a, b); got != want {
				t.Errorf("Order(%q, %q) = %d", a, b, got)
			}
		}
	}
}

// P6.3: each pair of bytes, by itself, behind others and ahead of others.
func TestOrderOfEachByte(t *testing.T) {
	for i := range 256 {
		for j := range 256 {
			a, b := string([]byte{byte(i)}), string([]byte{byte(j)})
			want := orderOf(a, b)
			if got := paths.Order(a, b); got != want {
				t.Errorf("Order(%q, %q) = %d", a, b, got)
			}
			if got := paths.Order("x/"+a, "x/"+b); got != want {
				t.Errorf("Order of %q and %q behind others is %d", a, b, got)
			}
			if got := paths.Order(a+"z", b+"a"); i != j && got != want {
				t.Errorf("Order of %q and %q ahead of others is %d", a, b, got)
			}
		}
	}
}

// P6.3: short strings and long ones, which differ in the end.
func TestOrderOfAllShortStrings(t *testing.T) {
	long := strings.Repeat("x", 1<<16)
	for _, a := range shortStrings("\x00a/\xff", 4) {
		for _, b := range shortStrings("\x00a/\xff", 4) {
			if got := paths.Order(a, b); got != orderOf(a, b) {
				t.Fatalf("Order(%q, %q) = %d", a, b, got)
			}
		}
		if got := paths.Order(long+a, long); got != orderOf(a, "") {
			t.Errorf("Order of many bytes with %q in the end is %d", a, got)
		}
	}
}

// P6.4: a prefix covers what is covered by a path that it covers.
func TestWhatIsCoveredByWhatIsCovered(t *testing.T) {
	all := somePaths()
	for _, prefix := range append(all, "") {
		for _, between := range all {
			if !paths.Under(prefix, between) {
				continue
			}
			for _, path := range all {
				if paths.Under(between, path) && !paths.Under(prefix, path) {
					t.Fatalf("%q covers %q, and that covers %q, but the first doesn't", prefix, between, path)
				}
			}
		}
	}
}

// P6.4: of two prefixes that cover the same path, one covers the other or is empty.
func TestTwoPrefixesOfOnePath(t *testing.T) {
	prefixes := append(somePaths(), "")
	for _, path := range somePaths() {
		var over []string
		for _, prefix := range prefixes {
			if paths.Under(prefix, path) {
				over = append(over, prefix)
			}
		}
		if len(over) < 2 {
			t.Errorf("%q is covered by %q alone", path, over)
		}
		for _, a := range over {
			for _, b := range over {
				if a != "" && b != "" && !paths.Under(a, b) && !paths.Under(b, a) {
					t.Errorf("%q and %q both cover %q, but none of them the other", a, b, path)
				}
			}
		}
	}
}

// P6.5: the parts, joined with slashes, are the path; each of them is a path by itself.
func TestPartsJoined(t *testing.T) {
	for _, path := range somePaths() {
		parts := paths.Parts(path)
		if got := strings.Join(parts, "/"); got != path {
			t.Errorf("the parts of %q, joined, are %q", path, got)
		}
		for i, s := range parts {
			if !isPath(s) || strings.Contains(s, "/") || !paths.Under(strings.Join(parts[:i+1], "/"), path) {
				t.Errorf("%q is no part of %q", s, path)
			}
		}
	}
}

// What Parts returns is changed; what it returns next is not.
func TestPartsAreNew(t *testing.T) {
	for _, path := range somePaths() {
		got, again := paths.Parts(path), paths.Parts(path)
		want := slices.Clone(got)
		for i := range got {
			got[i] = "changed"
		}
		_ = append(got, "more")
		if !slices.Equal(again, want) || !slices.Equal(paths.Parts(path), want) {
			t.Errorf("the parts of %q are shared", path)
		}
	}
}

// The parts don't keep the text out of which a path was cut.
func TestPartsKeepNoText(t *testing.T) {
	text := strings.Repeat("add a/bc/d x\n", 1000)
	path := text[4:10]
	parts := paths.Parts(path)
	if !slices.Equal(parts, []string{"a", "bc", "d"}) {
		t.Fatalf("Parts(%q) = %q", path, parts)
	}
	for _, s := range parts {
		for i := range len(path) {
			if unsafe.StringData(s) == unsafe.StringData(path[i:]) {
				t.Errorf("%q is a piece of the path that was passed", s)
			}
		}
	}
}

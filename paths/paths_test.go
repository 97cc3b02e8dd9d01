package paths_test

import (
	"slices"
	"strings"
	"testing"

	"redwax/api"
	"redwax/paths"
)

const allowed = "abcdefghijklmnopqrstuvwxyzABCDEFGHIJKLMNOPQRSTUVWXYZ0123456789_-."

// isPath goes through the bytes one by one, by the words of the chapter.
func isPath(s string) bool {
	if len(s) > 60 {
		return false
	}
	parts, bytes, others := 1, 0, 0
	for i := range len(s) {
		switch {
		case s[i] == '/':
			if others == 0 {
				return false
			}
			parts, bytes, others = parts+1, 0, 0
		case strings.IndexByte(allowed, s[i]) < 0:
			return false
		default:
			bytes++
			if s[i] != '.' {
				others++
			}
		}
	}
	return bytes > 0 && others > 0 && parts <= 8
}

// errnoOf is what is returned for what holds, and for what does not.
func errnoOf(holds bool) api.Errno {
	if holds {
		return api.OK
	}
	return api.ErrPrefix
}

// checkRight checks what Check, Prefix and Parts return for s, which is a path or none.
func checkRight(t *testing.T, s string, is bool) {
	t.Helper()
	if got := paths.Check(s); got != errnoOf(is) {
		t.Errorf("Check(%q) = %d", s, got)
	}
	if got := paths.Prefix(s); got != errnoOf(is || s == "") {
		t.Errorf("Prefix(%q) = %d", s, got)
	}
	parts := paths.Parts(s)
	if !is && len(parts) != 0 {
		t.Errorf("Parts(%q) = %q", s, parts)
	}
	if is && (strings.Join(parts, "/") != s || len(parts) != strings.Count(s, "/")+1) {
		t.Errorf("Parts(%q) = %q", s, parts)
	}
}

// shortStrings are all strings of at most n of some bytes.
func shortStrings(some string, n int) []string {
	l := []string{""}
	for from := 0; n > 0; n-- {
		to := len(l)
		for _, s := range l[from:to] {
			for i := range len(some) {
				l = append(l, s+some[i:i+1])
			}
		}
		from = to
	}
	return l
}

// somePaths are paths of one part and of several, of few bytes and of the most.
func somePaths() []string {
	l := slices.DeleteFunc(shortStrings("a.b/", 5), func(s string) bool { return !isPath(s) })
	return append(l, "README.md", "src/main.go", "a/b/c/d/e/f/g/h", "._-/-_./0", "a/ab/abc/abcd", "a/ab/abc/abcd/e",
		strings.Repeat("x", 60), strings.Repeat("x", 59), strings.Repeat("x", 58)+"/y", strings.Repeat("1234567/", 7)+"1234")
}

// The chapter's examples.
func TestExamples(t *testing.T) {
	for _, s := range []string{"a", "a/b.c", ".x/-", "a..b"} {
		checkRight(t, s, true)
	}
	for _, s := range []string{"", "/a", "a/", "a//b", ".", "a/..", "a b"} {
		checkRight(t, s, false)
	}
	for _, c := range []struct {
		prefix, path string
		covers       bool
	}{{"a", "a/b", true}, {"a", "ab", false}, {"", "a", true}, {"a/b", "a", false}} {
		if got := paths.Under(c.prefix, c.path); got != c.covers {
			t.Errorf("Under(%q, %q) = %t", c.prefix, c.path, got)
		}
	}
}

// P6.1: strings whose parts have something beside dots.
func TestCheck(t *testing.T) {
	for _, s := range []string{
		"a", "Z", "0", "_", "-", "ab", "a/b", "a/a", "A/a/0", "-/-", "_/_", "--", "__", "-_-",
		".a", "a.", ".a.", "..a", "a..", "...a", "a...", "a..b", "a...b", ".-", "-.", "._", ".0.", "..-..", "a/.b", ".a/b", "a/b.", "a./b",
		"..a/..b", "a../b", ".git", ".gitignore", "x.tar.gz", "a/b/c/d/e/f/g/h", "CON", "con/aux", "0/1/2",
	} {
		checkRight(t, s, true)
	}
}

// P6.1: strings without bytes, parts without bytes, parts of dots alone.
func TestCheckOfNone(t *testing.T) {
	for _, s := range []string{
		"", "/", "//", "///", "/a", "//a", "a/", "a//", "/a/", "a//b", "a///b", "a/b/", "a/b//", "/a/b", "a//b/c", "a/b//c",
		".", "..", "...", "....", "./a", "../a", ".../a", "a/.", "a/..", "a/...", "a/./b", "a/../b", "a/.../b", "./.", "../..", "./", "../", "/.", "/..",
		strings.Repeat(".", 60), "a/" + strings.Repeat(".", 58),
		"\\", "a\\b", "a:b", "a,b", "a b", " a", "a ", "a\tb", "a\n", "\na", "a/ /b", "a/\n", "~", "~/a", "*", "a*", "?", "$a", "%20", "a+b", "a=b", "a@b", "#a", "\"a\"", "'a'", "(a)",
	} {
		checkRight(t, s, false)
	}
}

// P6.1: each byte, by itself and beside others, in the first part and in another.
func TestCheckOfEachByte(t *testing.T) {
	for i := range 256 {
		b := string([]byte{byte(i)})
		is := strings.Contains(allowed, b)
		checkRight(t, b, is && b != ".")
		checkRight(t, b+"a", is)
		checkRight(t, "a"+b, is)
		checkRight(t, "a"+b+"a/y", is || b == "/")
		checkRight(t, "x/"+b+"-", is)
		checkRight(t, "a/"+b, is && b != ".")
		checkRight(t, b+"/a", is && b != ".")
	}
}

// P6.1: the bytes just beside the allowed ones; of the allowed ones themselves, dots are none alone.
func TestCheckBesideTheAllowedBytes(t *testing.T) {
	for _, s := range []string{"a", "z", "A", "Z", "0", "9", "_", "-"} {
		checkRight(t, s, true)
	}
	for _, s := range []string{"`", "{", "@", "[", "/", ":", "^", ",", " ", "\x00", "\x1f", "\x7f", "\x80", "\xff"} {
		checkRight(t, s, false)
		checkRight(t, "a"+s, false)
		checkRight(t, "a/b"+s, false)
	}
}

// P6.1: bytes from 128 on: letters and digits of more than one byte, among them those whose number
// ends in an allowed byte, or that are told in more bytes than they need; bytes that are no UTF-8.
func TestCheckOfOtherRunes(t *testing.T) {
	for _, s := range []string{
		"\u00e9", "\u00c4", "\u00df", "\u0161", "\u0141", "\u0130", "\u012d", "\u012e", "\u012f", "\u015f", "\u0430", "\u212a", "\u017f", "\u0663", "\uff11", "\uff41",
		"\uff0e", "\u2024", "\u2026", "\uff0f", "\u2044", "\u2215", "\u2010", "\u2212", "\ufe4d", "\u00ad", "\u200b", "\u00a0", "\u2028", "\ufeff", "\ufffd",
		"\U0001f600", "\U00010061", "\U00100041", "e\u0301",
		"\x80", "\xbf", "\xc0", "\xc3", "\xff", "\xfe", "\xe1", "\xb2", "\xc1\xa1", "\xc0\xaf", "\xc0\xae", "\xe0\x81\xa1", "\xed\xa0\x80", "\xe2\x82", "\xf4\x90\x80\x80",
		"\x00", "\x00\x00",
	} {
		for _, w := range []string{s, "a" + s, s + "a", "a" + s + "b", "a/" + s, s + "/a", "a/b" + s + "c/d", "." + s, s + "."} {
			checkRight(t, w, false)
		}
	}
}

// P6.1: MaxParts parts and more, MaxPath bytes and more, each bound by itself.
func TestCheckAtTheBounds(t *testing.T) {
	for n := 1; n <= 70; n++ {
		checkRight(t, strings.Repeat("x", n), n <= 60)
		checkRight(t, strings.Repeat(".", n-1)+"x", n <= 60)
		if n > 2 {
			checkRight(t, "a/"+strings.Repeat("x", n-2), n <= 60)
			checkRight(t, strings.Repeat("x", n-2)+"/a", n <= 60)
		}
	}
	for n := 1; n <= 20; n++ {
		for bytes := 1; bytes <= 10; bytes++ {
			parts := slices.Repeat([]string{strings.Repeat("y", bytes)}, n)
			s := strings.Join(parts, "/")
			checkRight(t, s, n <= 8 && len(s) <= 60)
			checkRight(t, s+"/", false)
			checkRight(t, "/"+s, false)
		}
	}
	checkRight(t, "1/2/3/4/5/6/7/8", true)
	checkRight(t, "1/2/3/4/5/6/7/8/9", false)
	checkRight(t, strings.Repeat("1234567/", 7)+"1234", true)
	checkRight(t, strings.Repeat("1234567/", 7)+"12345", false)
}

// P6.1: bytes count, not runes.
func TestCheckOfManyBytes(t *testing.T) {
	for _, n := range []int{61, 64, 256, 1000, 1 << 20} {
		for _, s := range []string{"a", "/", "a/", ".", "./", "\x00", "\xff", "\u00e9", " "} {
			checkRight(t, strings.Repeat(s, n), false)
		}
	}
	checkRight(t, strings.Repeat("\u00e9", 30), false)
	checkRight(t, strings.Repeat("\u00e9", 60), false)
}

// P6.1, P6.5: all short strings of some bytes.
func TestCheckOfAllShortStrings(t *testing.T) {
	for _, s := range shortStrings("aZ0._-/ ", 5) {
		checkRight(t, s, isPath(s))
	}
	for _, s := range shortStrings("a./", 9) {
		checkRight(t, s, isPath(s))
	}
	for _, s := range shortStrings("a/", 17) {
		checkRight(t, s, isPath(s))
	}
}

// P6.1: the empty string is a prefix, but no path.
func TestPrefixOfNothing(t *testing.T) {
	if got := paths.Prefix(""); got != api.OK {
		t.Errorf("Prefix of the empty string is %d", got)
	}
	if got := paths.Check(""); got != api.ErrPrefix {
		t.Errorf("Check of the empty string is %d", got)
	}
	for _, s := range []string{"/", ".", " ", "\x00", "a/"} {
		if got := paths.Prefix(s); got != api.ErrPrefix {
			t.Errorf("Prefix(%q) = %d", s, got)
		}
	}
}

// P6.1: Parts of paths of one part and of several.
func TestParts(t *testing.T) {
	x := strings.Repeat("x", 60)
	for _, c := range []struct {
		path  string
		parts []string
	}{
		{"a", []string{"a"}},
		{"abc", []string{"abc"}},
		{"a.b", []string{"a.b"}},
		{x, []string{x}},
		{"a/b", []string{"a", "b"}},
		{"b/a", []string{"b", "a"}},
		{"a/a", []string{"a", "a"}},
		{"src/main.go", []string{"src", "main.go"}},
		{".x/-/_", []string{".x", "-", "_"}},
		{"1/22/333", []string{"1", "22", "333"}},
		{"h/g/f/e/d/c/b/a", []string{"h", "g", "f", "e", "d", "c", "b", "a"}},
	} {
		if got := paths.Parts(c.path); !slices.Equal(got, c.parts) {
			t.Errorf("Parts(%q) = %q", c.path, got)
		}
	}
}

// P6.1: Parts of what is no path.
func TestPartsOfNone(t *testing.T) {
	for _, s := range []string{
		"", "/", "/a", "a/", "a//b", ".", "..", "a/.", "./a", "a b", "a/b c", "a/\u00e9", "\xff", "\x00", "a/b/\x00",
		"1/2/3/4/5/6/7/8/9", strings.Repeat("x", 61), "a/" + strings.Repeat("x", 59),
	} {
		if got := paths.Parts(s); len(got) != 0 {
			t.Errorf("Parts(%q) = %q", s, got)
		}
	}
}

package lines_test

import (
	"slices"
	"strings"
	"testing"

	"redwax/api"
	"redwax/lines"
)

// The chapter's examples.
func TestExamples(t *testing.T) {
	for _, x := range []struct {
		text  string
		want  []string
		errno api.Errno
	}{
		{"a\nb\n", []string{"a", "b"}, api.OK},
		{"", nil, api.OK},
		{"\n", []string{""}, api.OK},
		{"a", nil, api.ErrForm},
		{"a\nb", nil, api.ErrForm},
		{"=======\n", nil, api.ErrForm},
		{"========\n", []string{"========"}, api.OK},
	} {
		got, errno := lines.Split(x.text)
		wantsList(t, got, x.want, errno, x.errno, "Split(%q)", x.text)
	}
	got, errno := lines.Told(">>>>>>>\na\n<<<<<<<\n")
	wantsList(t, got, []string{">>>>>>>", "a", "<<<<<<<"}, errno, api.OK, "Told")
	wants(t, lines.Is(strings.Repeat(" ", 81)), false, "Is of 81 spaces")
	wants(t, lines.Is("\t"), true, "Is of a tab")
	wants(t, lines.Is("é"), false, "Is of é")
}

// P13.1, words: the markers are these three, and no lines.
func TestMarkers(t *testing.T) {
	wants(t, lines.Begin, ">>>>>>>", "Begin")
	wants(t, lines.Middle, "=======", "Middle")
	wants(t, lines.Close, "<<<<<<<", "Close")
	for _, s := range []string{lines.Begin, lines.Middle, lines.Close} {
		wants(t, lines.Mark(s), true, "Mark(%q)", s)
		wants(t, lines.Is(s), false, "Is(%q)", s)
	}
	for _, s := range []string{"", "<<<<<<", ">>>>>>", "======", "<<<<<<<<", ">>>>>>>>", "========", "-------", "|||||||", "<<<<<<=", "<=>", " =======", "======= ", "=======\n"} {
		wants(t, lines.Mark(s), false, "Mark(%q)", s)
	}
}

// P13.1: of all bytes, the tab and those from 32 to 126 alone may stand in a line, wherever.
func TestBytesOfALine(t *testing.T) {
	allowed := 0
	for b := range 256 {
		c := string([]byte{byte(b)})
		for _, s := range []string{c, c + "ab", "a" + c + "b", "ab" + c, strings.Repeat("a", 79) + c, strings.Repeat(c, 80)} {
			wants(t, lines.Is(s), b == 9 || 32 <= b && b <= 126, "Is(%q)", s)
			wants(t, lines.Mark(s), false, "Mark(%q)", s)
		}
		if lines.Is(c) {
			allowed++
		}
	}
	wants(t, allowed, 96, "bytes that may stand in a line")
}

// P13.1: bytes that are UTF-8 together, or that are none, are in no line.
func TestRunesOfALine(t *testing.T) {
	for _, s := range []string{"é", "aé", "éa", "日本", "\u0080", "\u00a0", "\u2028", "\ufffd", "\ufeff", "\U0001f600", "\xc3", "\xa9", "\xc0\x89", "\xe0\x80\xa0", "\xf5", "\xed\xa0\x80"} {
		wants(t, lines.Is(s), false, "Is(%q)", s)
	}
}

// P13.1: a line has at most 80 bytes, none at the least.
func TestLengthOfALine(t *testing.T) {
	for n := range 200 {
		wants(t, lines.Is(strings.Repeat("x", n)), n <= 80, "Is of %d bytes", n)
		wants(t, lines.Is(strings.Repeat("=", n)), n <= 80 && n != 7, "Is of %d times =", n)
		wants(t, lines.Is(strings.Repeat("é", n)), n == 0, "Is of %d times é", n)
	}
}

// P13.1: Is and Mark agree with the words of the chapter, and no string is both.
func TestIsAndMarkByTheWords(t *testing.T) {
	l := append(strange(), shortTexts([]string{"<", "=", ">"}, 8)...)
	for _, s := range l {
		wants(t, lines.Is(s), isLine(s), "Is(%q)", s)
		wants(t, lines.Mark(s), isMarker(s), "Mark(%q)", s)
		if lines.Is(s) && lines.Mark(s) {
			t.Errorf("%q is a line and a marker", s)
		}
	}
}

// P13.1: at most 256 elements; ErrLong comes before ErrForm, wherever the element is that is no line.
func TestCheck(t *testing.T) {
	for _, n := range []int{0, 1, 2, 3, 100, 255, 256, 257, 258, 512, 1000} {
		l := slices.Repeat([]string{"x"}, n)
		want, wantBad := api.OK, api.ErrForm
		if n > 256 {
			want, wantBad = api.ErrLong, api.ErrLong
		}
		wants(t, lines.Check(l), want, "Check of %d lines", n)
		for _, i := range []int{0, 1, n / 2, n - 2, n - 1} {
			if i < 0 || i >= n {
				continue
			}
			for _, bad := range []string{"=======", "\r", "é", "a\n", strings.Repeat("x", 81)} {
				l[i] = bad
				wants(t, lines.Check(l), wantBad, "Check of %d, %q as number %d", n, bad, i)
			}
			l[i] = "x"
		}
	}
	wants(t, lines.Check(nil), api.OK, "Check of nil")
	wants(t, lines.Check([]string{}), api.OK, "Check of none")
	wants(t, lines.Check(make([]string, 256)), api.OK, "Check of 256 empty lines")
}

// P13.1: Check looks at each element by itself.
func TestCheckOfStrangeElements(t *testing.T) {
	for _, s := range strange() {
		for _, l := range [][]string{{s}, {s, "x"}, {"x", s}, {"x", s, "x"}, {s, s}} {
			wants(t, lines.Check(l), errnoOf(l), "Check(%q)", l)
		}
	}
}

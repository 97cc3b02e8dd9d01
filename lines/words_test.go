package lines_test

import (
	"slices"
	"strings"
	"testing"

	"redwax/api"
)

// wants fails the test if got is not what is wanted.
func wants[T comparable](t *testing.T, got, want T, format string, args ...any) {
	t.Helper()
	if got != want {
		t.Errorf(format+": %v, not %v", append(args, got, want)...)
	}
}

// wantsList fails the test if got is not what is wanted, or if it is not empty beside an error.
func wantsList(t *testing.T, got, want []string, errno, wantErrno api.Errno, format string, args ...any) {
	t.Helper()
	if errno != wantErrno || !slices.Equal(got, want) {
		t.Errorf(format+": %q and %d, not %q and %d", append(args, short(got), errno, short(want), wantErrno)...)
	}
}

// short is the beginning of a list.
func short(l []string) []string {
	return l[:min(len(l), 6)]
}

// isMarker is P13.1's Mark: the same character seven times.
func isMarker(s string) bool {
	if len(s) != 7 || strings.IndexByte("<=>", s[0]) < 0 {
		return false
	}
	for i := range 7 {
		if s[i] != s[0] {
			return false
		}
	}
	return true
}

// isLine is P13.1's Is, byte by byte.
func isLine(s string) bool {
	for i := range len(s) {
		if s[i] != 9 && (s[i] < 32 || s[i] > 126) {
			return false
		}
	}
	return len(s) <= 80 && !isMarker(s)
}

// errnoOf is P13.1's Check.
func errnoOf(l []string) api.Errno {
	if len(l) > 256 {
		return 3
	}
	for _, s := range l {
		if !isLine(s) {
			return 4
		}
	}
	return 0
}

// terminated are the strings that the newlines of text terminate, and whether nothing is behind them.
func terminated(text string) ([]string, bool) {
	var l []string
	from := 0
	for i := range len(text) {
		if text[i] == 10 {
			l = append(l, text[from:i])
			from = i + 1
		}
	}
	return l, from == len(text)
}

// splitOf is P13.2's Split.
func splitOf(text string) ([]string, api.Errno) {
	l, ended := terminated(text)
	if !ended {
		return nil, 4
	}
	if errno := errnoOf(l); errno != 0 {
		return nil, errno
	}
	return l, 0
}

// toldOf is P13.3's Told.
func toldOf(text string) ([]string, api.Errno) {
	l, ended := terminated(text)
	if !ended {
		return nil, 4
	}
	for _, s := range l {
		if !isLine(s) && !isMarker(s) {
			return nil, 4
		}
	}
	return l, 0
}

// joinOf is P13.2's Join.
func joinOf(l []string) string {
	var b []byte
	for _, s := range l {
		b = append(append(b, s...), 10)
	}
	return string(b)
}

// strange are strings that are, or almost are, lines or markers.
func strange() []string {
	l := []string{
		"", " ", "\t", "~", "a", "\x7f", "\x1f", "\x00", "\r", "a\r", "\v", "\f", "\n", "a\nb", "\x80", "\xff",
		"é", "a\u0300", "\u2028", "\ufffd", "\ufeff", "日本", "\xe6\x97", "\xc0\xa0", "\U0001f600", "a\u00a0b",
	}
	for _, c := range []string{"<", "=", ">", "-", "#", "|", " ", "~", "a"} {
		for n := range 10 {
			l = append(l, strings.Repeat(c, n))
		}
		seven := strings.Repeat(c, 7)
		l = append(l, " "+seven, seven+" ", "\t"+seven, seven+"\t", seven+"\r", seven+" x", seven[:3]+" "+seven[:3], seven+seven)
		for i := range 7 {
			for _, other := range []string{"<", "=", ">", "a"} {
				l = append(l, seven[:i]+other+seven[i+1:])
			}
		}
	}
	for _, c := range []string{" ", "\t", "x", "=", "~", "\x7f", "\x80", "é"} {
		for _, n := range []int{39, 40, 41, 78, 79, 80, 81, 82, 160, 1000} {
			l = append(l, strings.Repeat(c, n))
		}
	}
	for i := range 80 {
		long := strings.Repeat("x", 80)
		l = append(l, long[:i]+"\x1f"+long[i+1:], long[:i]+"\t"+long[i+1:], long[:i]+"\xc3"+long[i+1:])
	}
	return l
}

// shortTexts are all strings of at most n of some pieces.
func shortTexts(pieces []string, n int) []string {
	l := []string{""}
	from := 0
	for range n {
		to := len(l)
		for _, s := range l[from:to] {
			for _, piece := range pieces {
				l = append(l, s+piece)
			}
		}
		from = to
	}
	return l
}

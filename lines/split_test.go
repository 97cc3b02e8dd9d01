package lines_test

import (
	"math/rand"
	"slices"
	"strings"
	"testing"
	"unsafe"

	"redwax/api"
	"redwax/lines"
)

// checkText checks what Split and Told return for text, and that Join takes it back.
func checkText(t *testing.T, text string) {
	t.Helper()
	got, errno := lines.Split(text)
	want, wantErrno := splitOf(text)
	wantsList(t, got, want, errno, wantErrno, "Split(%.200q)", text)
	if errno == api.OK {
		wants(t, lines.Join(got), text, "Join of Split")
		wants(t, len(got), strings.Count(text, "\n"), "lines of %.200q", text)
		wants(t, lines.Check(got), api.OK, "Check of Split")
	}
	got, errno = lines.Told(text)
	want, wantErrno = toldOf(text)
	wantsList(t, got, want, errno, wantErrno, "Told(%.200q)", text)
	if errno == api.OK {
		wants(t, lines.Join(got), text, "Join of Told")
	}
}

// checkList checks what Join returns for l, and that Split takes it back where Check returns api.OK.
func checkList(t *testing.T, l []string) {
	t.Helper()
	text := lines.Join(l)
	wants(t, text, joinOf(l), "Join(%.200q)", l)
	if lines.Check(l) == api.OK {
		got, errno := lines.Split(text)
		wantsList(t, got, l, errno, api.OK, "Split of Join")
		got, errno = lines.Told(text)
		wantsList(t, got, l, errno, api.OK, "Told of Join")
	}
}

// P13.2, P13.3, P13.4: all short texts.
func TestShortTexts(t *testing.T) {
	for _, text := range shortTexts([]string{"\n", "a", "\t", "=", "\r"}, 6) {
		checkText(t, text)
	}
	for _, text := range shortTexts([]string{"\n", "=======", "<<<<<<<", ">", "é", "x"}, 5) {
		checkText(t, text)
	}
}

// P13.2, P13.3: each strange string as a line of a text, with and without its newline.
func TestStrangeTexts(t *testing.T) {
	for _, s := range strange() {
		for _, text := range []string{s, s + "\n", "\n" + s, s + "\n\n", "a\n" + s + "\n", s + "\nb", s + "\n" + s + "\n", "\n\n" + s + "\n\n", "=======\n" + s + "\n"} {
			checkText(t, text)
		}
	}
}

// P13.2: ErrForm for a missing newline, then ErrLong, then ErrForm for what is no line.
func TestSplitErrors(t *testing.T) {
	for _, n := range []int{0, 1, 2, 254, 255, 256, 257, 258, 300, 5000} {
		full := strings.Repeat("x\n", n)
		want := api.OK
		if n > 256 {
			want = api.ErrLong
		}
		_, errno := lines.Split(full)
		wants(t, errno, want, "Split of %d lines", n)
		_, errno = lines.Split(full + "x")
		wants(t, errno, api.ErrForm, "Split of %d lines and no newline", n)
		for _, bad := range []string{"=======\n", "\r\n", "é\n", strings.Repeat("x", 81) + "\n"} {
			want = api.ErrForm
			if n+1 > 256 {
				want = api.ErrLong
			}
			_, errno = lines.Split(full + bad)
			wants(t, errno, want, "Split of %d lines and %q", n, bad)
			_, errno = lines.Split(bad + full)
			wants(t, errno, want, "Split of %q and %d lines", bad, n)
			_, errno = lines.Split(bad + full + "x")
			wants(t, errno, api.ErrForm, "Split of %q, %d lines and no newline", bad, n)
		}
	}
}

// P13.2, P13.4: the greatest text of a file, and those that are a byte or a line greater.
func TestGreatestText(t *testing.T) {
	line := strings.Repeat("~", 80)
	l := slices.Repeat([]string{line}, 256)
	checkList(t, l)
	text := strings.Repeat(line+"\n", 256)
	checkText(t, text)
	checkText(t, text+"\n")
	checkText(t, "~"+text)
	checkText(t, text[:len(text)-1]+"~\n")
	checkText(t, text[:len(text)-1])
	checkText(t, strings.Repeat("\n", 256))
	checkText(t, strings.Repeat("\n", 257))
}

// P13.3: Told takes any number of lines and markers.
func TestToldTakesManyLines(t *testing.T) {
	for _, n := range []int{255, 256, 257, 258, 1000, 100000} {
		text := strings.Repeat(">>>>>>>\na\n=======\n\n<<<<<<<\n", n/5) + strings.Repeat("b\n", n%5)
		l, errno := lines.Told(text)
		wants(t, errno, api.OK, "Told of %d lines", n)
		wants(t, len(l), n, "lines that Told returns")
		wants(t, lines.Join(l), text, "Join of Told")
		for _, bad := range []string{"\x7f\n", "\r\n", "é\n", strings.Repeat("=", 81) + "\n", "a"} {
			got, errno := lines.Told(text + bad)
			wantsList(t, got, nil, errno, api.ErrForm, "Told of %d lines and %q", n, bad)
		}
		got, errno := lines.Told("\x00\n" + text)
		wantsList(t, got, nil, errno, api.ErrForm, "Told of no line and %d lines", n)
	}
}

// P13.2: Join joins whatever the elements are.
func TestJoin(t *testing.T) {
	wants(t, lines.Join(nil), "", "Join of nil")
	wants(t, lines.Join([]string{}), "", "Join of none")
	wants(t, lines.Join([]string{""}), "\n", "Join of an empty line")
	wants(t, lines.Join([]string{"a", "", "b"}), "a\n\nb\n", "Join")
	wants(t, lines.Join([]string{"a\n", "=======", "\r", "\xff"}), "a\n\n=======\n\r\n\xff\n", "Join of no lines")
	wants(t, lines.Join(slices.Repeat([]string{"ab"}, 300)), strings.Repeat("ab\n", 300), "Join of too many")
	for _, s := range strange() {
		for _, l := range [][]string{{s}, {s, s}, {"", s}, {"x", s, "y"}} {
			checkList(t, l)
		}
	}
}

// P13.2, P13.3, P13.4: random lists and texts, some of whose bytes are wrong.
func TestRandomTexts(t *testing.T) {
	random := rand.New(rand.NewSource(13))
	pool := strange()
	for range 3000 {
		l := make([]string, random.Intn(9)*random.Intn(33))
		for i := range l {
			l[i] = strings.Repeat(string(rune(32+random.Intn(95))), random.Intn(81))
			if random.Intn(200) == 0 {
				l[i] = pool[random.Intn(len(pool))]
			}
		}
		checkList(t, l)
		text := []byte(lines.Join(l))
		checkText(t, string(text))
		for range random.Intn(3) {
			if len(text) > 0 {
				text[random.Intn(len(text))] = byte(random.Intn(256))
			}
		}
		checkText(t, string(text))
		checkText(t, string(text[:len(text)-min(len(text), random.Intn(3))]))
	}
}

// P13.5: what is passed is not modified, not even behind a list's length.
func TestArgumentsStay(t *testing.T) {
	for _, l := range [][]string{{"b", "a", "", "b"}, {"=======", "a\n", "é", strings.Repeat("x", 81)}} {
		l = append(slices.Grow(l, 4), "behind")[:len(l)]
		before := slices.Clone(l[:5])
		first, again := lines.Join(l), lines.Join(l)
		wants(t, first, again, "Join, twice")
		wants(t, lines.Check(l), lines.Check(l), "Check, twice")
		if !slices.Equal(l[:5], before) {
			t.Errorf("%q has become %q", before, l[:5])
		}
	}
}

// P13.5: results share no memory, neither with each other nor with the text.
func TestResultsAreNew(t *testing.T) {
	text := "a\nbc\n\nd\n"
	for name, call := range map[string]func(string) ([]string, api.Errno){"Split": lines.Split, "Told": lines.Told} {
		first, _ := call(text)
		again, _ := call(text)
		for i := range first {
			first[i] = "z"
		}
		wants(t, strings.Join(again, ","), "a,bc,,d", "%s after its other result was written over", name)
		got, _ := call(text)
		wants(t, strings.Join(got, ","), "a,bc,,d", "%s again", name)
		for _, s := range got {
			for i := range len(text) {
				if s != "" && unsafe.StringData(s) == unsafe.StringData(text[i:]) {
					t.Errorf("%s: %q is a piece of the text that was passed", name, s)
				}
			}
		}
	}
}

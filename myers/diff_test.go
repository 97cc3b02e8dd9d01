package myers_test

import (
	"math/rand"
	"slices"
	"strings"
	"testing"

	"redwax/api"
	"redwax/myers"
)

// checkDiff checks what Diff returns for a and b, and what holds of it.
func checkDiff(t *testing.T, a, b []string) {
	t.Helper()
	got, errno := myers.Diff(a, b)
	wantsList(t, got, selectedOf(a, b), errno, api.OK, "Diff(%.200q, %.200q)", a, b)
	checkScript(t, a, b, got)
}

// checkScript checks P14.3 but for the length, and P14.4, of what Diff returned for a and b.
func checkScript(t *testing.T, a, b []string, l []step) {
	t.Helper()
	wants(t, isScript(a, b, l), true, "that what Diff returns is a script for %.200q and %.200q", a, b)
	made, errno := myers.Play(a, b, l)
	wantsList(t, made, b, errno, api.OK, "Play of Diff(%.200q, %.200q)", a, b)
	var before []string
	for _, s := range l {
		if s.Op == myers.Keep || s.Op == myers.Gone {
			before = append(before, a[s.A])
		}
	}
	wantsList(t, before, a, api.OK, api.OK, "strings of the Keep and Gone steps of Diff(%.200q, %.200q)", a, b)
	back, errno := myers.Diff(b, a)
	wants(t, errno, api.OK, "Diff(%.200q, %.200q)", b, a)
	wants(t, kept(back), kept(l), "Keep steps of Diff(%.200q, %.200q) and back", a, b)
}

// The chapter's examples.
func TestExamples(t *testing.T) {
	for _, x := range []struct {
		a, b string
		want []step
	}{
		{"x y", "y z", []step{gone(0), keep(1, 0), added(1)}},
		{"x", "y", []step{gone(0), added(0)}},
		{"a b c a b b a", "c b a b a c", []step{gone(0), gone(1), keep(2, 0), gone(3), keep(4, 1), added(2), keep(5, 3), keep(6, 4), added(5)}},
	} {
		got, errno := myers.Diff(words(x.a), words(x.b))
		wantsList(t, got, x.want, errno, api.OK, "Diff(%s, %s)", x.a, x.b)
		checkDiff(t, words(x.a), words(x.b))
	}
}

// Words: the kinds of steps have these numbers.
func TestKinds(t *testing.T) {
	wants(t, myers.Keep, 0, "Keep")
	wants(t, myers.Gone, 1, "Gone")
	wants(t, myers.New, 2, "New")
}

// P14.1: nil and empty lists are lists without elements.
func TestDiffOfNoElements(t *testing.T) {
	for _, none := range [][]string{nil, {}} {
		got, errno := myers.Diff(none, none)
		wantsList(t, got, nil, errno, api.OK, "Diff of none and none")
		got, errno = myers.Diff(none, words("x y"))
		wantsList(t, got, []step{added(0), added(1)}, errno, api.OK, "Diff of none and x y")
		got, errno = myers.Diff(words("x y"), none)
		wantsList(t, got, []step{gone(0), gone(1)}, errno, api.OK, "Diff of x y and none")
	}
	got, errno := myers.Diff([]string{""}, []string{"", ""})
	wantsList(t, got, []step{keep(0, 0), added(1)}, errno, api.OK, "Diff of empty strings")
}

// P14.1: at most 1024 elements on each side.
func TestLimit(t *testing.T) {
	for _, n := range []int{0, 1, 1000, 1023, 1024, 1025, 1026, 2048, 5000} {
		for _, m := range []int{0, 1, 1023, 1024, 1025, 4096} {
			a, b := slices.Repeat([]string{"x"}, n), slices.Repeat([]string{"x"}, m)
			got, errno := myers.Diff(a, b)
			if n > 1024 || m > 1024 {
				wantsList(t, got, nil, errno, api.ErrLong, "Diff of %d and %d", n, m)
				continue
			}
			var want []step
			for i := range max(n, m) {
				switch {
				case i < min(n, m):
					want = append(want, keep(i, i))
				case i < n:
					want = append(want, gone(i))
				default:
					want = append(want, added(i))
				}
			}
			wantsList(t, got, want, errno, api.OK, "Diff of %d and %d", n, m)
		}
	}
}

// P14.1: of lists that share nothing all is taken out first; where both may be first, Gone is.
func TestGoneBeforeNew(t *testing.T) {
	for _, n := range []int{1, 2, 3, 10, 1024} {
		for _, m := range []int{1, 2, 5, 1024} {
			var want []step
			for i := range n {
				want = append(want, gone(i))
			}
			for j := range m {
				want = append(want, added(j))
			}
			got, errno := myers.Diff(numbered("a", n), numbered("b", m))
			wantsList(t, got, want, errno, api.OK, "Diff of %d and %d that share nothing", n, m)
		}
	}
	got, errno := myers.Diff(words("x y"), words("y x"))
	wantsList(t, got, []step{gone(0), keep(1, 0), added(1)}, errno, api.OK, "Diff of x y and y x")
	got, errno = myers.Diff(words("x y z"), words("y z x y"))
	wantsList(t, got, []step{gone(0), keep(1, 0), keep(2, 1), added(2), added(3)}, errno, api.OK, "Diff of x y z and y z x y")
}

// P14.1: New is first where more is kept behind it.
func TestNewBeforeGone(t *testing.T) {
	got, errno := myers.Diff(words("x y z"), words("z x y"))
	wantsList(t, got, []step{added(0), keep(0, 1), keep(1, 2), gone(2)}, errno, api.OK, "Diff of x y z and z x y")
	got, errno = myers.Diff(words("x y"), words("n x y"))
	wantsList(t, got, []step{added(0), keep(0, 1), keep(1, 2)}, errno, api.OK, "Diff of x y and n x y")
}

// P14.1: equal strings are kept as soon as they meet, though the last ones would do as well.
func TestKeepIsFirst(t *testing.T) {
	got, errno := myers.Diff(words("x"), words("x x x"))
	wantsList(t, got, []step{keep(0, 0), added(1), added(2)}, errno, api.OK, "Diff of x and x x x")
	got, errno = myers.Diff(words("x x x"), words("x"))
	wantsList(t, got, []step{keep(0, 0), gone(1), gone(2)}, errno, api.OK, "Diff of x x x and x")
}

// P14.1, P14.3, P14.4: all short lists.
func TestDiffOfShortLists(t *testing.T) {
	for _, all := range [][][]string{short(words("x y z"), 4), short(words("x y"), 5), short(words("p q r s"), 3)} {
		for _, a := range all {
			for _, b := range all {
				checkDiff(t, a, b)
			}
		}
	}
}

// P14.3: no script for two lists is shorter than the selected one, which is one of them.
func TestShortestOfAllScripts(t *testing.T) {
	all := append(short(words("x y"), 4), short(words("x y z"), 3)...)
	for _, a := range all {
		for _, b := range all {
			got, _ := myers.Diff(a, b)
			found := false
			for _, l := range scripts(a, b, 0, 0) {
				found = found || slices.Equal(l, got)
				if len(l)-kept(l) < len(got)-kept(got) {
					t.Errorf("Diff(%q, %q): %v, but %v is shorter", a, b, got, l)
				}
			}
			wants(t, found, true, "that %v is a script for %q and %q", got, a, b)
		}
	}
}

// P14.4: a list and itself.
func TestDiffOfSame(t *testing.T) {
	random := rand.New(rand.NewSource(14))
	for _, n := range []int{0, 1, 2, 7, 100, 1024} {
		for _, different := range []int{1, 2, 5, 2000} {
			a := randomList(random, n, different)
			var want []step
			for i := range n {
				want = append(want, keep(i, i))
			}
			got, errno := myers.Diff(a, a)
			wantsList(t, got, want, errno, api.OK, "Diff of %d and the same", n)
			got, errno = myers.Diff(a, slices.Clone(a))
			wantsList(t, got, want, errno, api.OK, "Diff of %d and a copy", n)
		}
	}
}

// P14.1, P14.3, P14.4: random lists, some of which come from one another by some edits.
func TestDiffOfRandomLists(t *testing.T) {
	random := rand.New(rand.NewSource(41))
	for range 1500 {
		different := 1 + random.Intn(12)
		a := randomList(random, random.Intn(40), different)
		checkDiff(t, a, randomList(random, random.Intn(40), different))
		checkDiff(t, a, edited(random, a, random.Intn(12), different))
	}
	for range 4 {
		a := randomList(random, 300, 40)
		checkDiff(t, a, edited(random, a, 60, 40))
	}
}

// P14.1, P14.3, P14.4: the greatest lists.
func TestDiffOfGreatLists(t *testing.T) {
	random := rand.New(rand.NewSource(1024))
	for _, different := range []int{1, 2, 30, 5000} {
		a, b := randomList(random, 1024, different), randomList(random, 1024, different)
		got, errno := myers.Diff(a, b)
		wants(t, errno, api.OK, "Diff of the greatest lists")
		checkScript(t, a, b, got)
	}
	a := randomList(random, 1024, 3)
	checkDiff(t, a, randomList(random, 1024, 3))
}

// P14.1: strings are equal if their bytes are, whatever these are.
func TestStringsOfAnyBytes(t *testing.T) {
	long := strings.Repeat("x", 5000)
	strange := []string{"", " ", "\x00", "\x00\x00", "\xff", "\xfe", "\xc3", "é", "e\u0301", "\ufffd", "a", "A", "a ", "a\n", "0", "1", "-1", ">>>>>>>", long, long + "a", long + "b"}
	for _, s := range strange {
		for _, other := range strange {
			want := []step{gone(0), added(0)}
			if s == other {
				want = []step{keep(0, 0)}
			}
			got, errno := myers.Diff([]string{s}, []string{strings.Clone(other)})
			wantsList(t, got, want, errno, api.OK, "Diff(%.20q, %.20q)", s, other)
			checkDiff(t, []string{s, "a", other, s}, []string{other, s, "a", ""})
		}
	}
	back := slices.Clone(strange)
	slices.Reverse(back)
	checkDiff(t, strange, back)
}

// What is passed is not modified, not even behind a list's length.
func TestDiffLeavesArguments(t *testing.T) {
	a := append(words("x y x z"), "behind")[:4]
	b := append(words("y x q"), "behind")[:3]
	first, _ := myers.Diff(a, b)
	again, _ := myers.Diff(a, b)
	wantsList(t, first, again, api.OK, api.OK, "Diff, twice")
	wants(t, strings.Join(a[:5], " "), "x y x z behind", "the first list")
	wants(t, strings.Join(b[:4], " "), "y x q behind", "the second list")
}

// What is returned is new, and does not hang on what was asked before.
func TestDiffIsNew(t *testing.T) {
	want := []step{gone(0), keep(1, 0), added(1)}
	first, _ := myers.Diff(words("x y"), words("y z"))
	again, _ := myers.Diff(words("x y"), words("y z"))
	for i := range first {
		first[i] = step{Op: 9, A: 9, B: 9}
	}
	wantsList(t, again, want, api.OK, api.OK, "Diff after its other result was written over")
	got, errno := myers.Diff(words("x y"), words("y z"))
	wantsList(t, got, want, errno, api.OK, "Diff again")
}

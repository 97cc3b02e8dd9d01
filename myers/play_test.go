package myers_test

import (
	"math"
	"math/rand"
	"slices"
	"strings"
	"testing"
	"unsafe"

	"redwax/api"
	"redwax/myers"
)

// checkPlay checks what Play returns for l, be it a script for a and b or not.
func checkPlay(t *testing.T, a, b []string, l []step) {
	t.Helper()
	got, errno := myers.Play(a, b, l)
	want, wantErrno := playOf(a, b, l)
	wantsList(t, got, want, errno, wantErrno, "Play(%.200q, %.200q, %.200v)", a, b, l)
}

// P14.2: a script's Keep and New steps, and each way in which steps are almost one.
func TestPlay(t *testing.T) {
	a, b := words("x y"), words("y z")
	for _, x := range []struct {
		l     []step
		want  []string
		errno api.Errno
	}{
		{[]step{gone(0), keep(1, 0), added(1)}, b, api.OK},
		{[]step{gone(0), gone(1), added(0), added(1)}, b, api.OK},
		{[]step{added(0), gone(0), added(1), gone(1)}, b, api.OK},
		{nil, nil, api.ErrForm},
		{[]step{gone(0), keep(1, 0)}, nil, api.ErrForm},
		{[]step{keep(1, 0), added(1)}, nil, api.ErrForm},
		{[]step{gone(0), added(0), added(1)}, nil, api.ErrForm},
		{[]step{gone(0), added(1), keep(1, 0)}, nil, api.ErrForm},
		{[]step{keep(0, 0), gone(1), added(1)}, nil, api.ErrForm},
		{[]step{keep(0, 0), keep(1, 1)}, nil, api.ErrForm},
		{[]step{gone(1), keep(0, 0), added(1)}, nil, api.ErrForm},
		{[]step{gone(1), gone(0), added(0), added(1)}, nil, api.ErrForm},
		{[]step{gone(0), gone(1), added(1), added(0)}, nil, api.ErrForm},
		{[]step{gone(0), gone(0), keep(1, 0), added(1)}, nil, api.ErrForm},
		{[]step{gone(0), keep(1, 0), added(1), added(1)}, nil, api.ErrForm},
		{[]step{gone(0), keep(1, 0), added(1), added(2)}, nil, api.ErrForm},
		{[]step{gone(0), keep(1, 0), added(1), gone(2)}, nil, api.ErrForm},
		{[]step{gone(0), keep(1, 0), added(1), keep(2, 2)}, nil, api.ErrForm},
		{[]step{gone(0), keep(1, 0), added(1), {}}, nil, api.ErrForm},
	} {
		got, errno := myers.Play(a, b, x.l)
		wantsList(t, got, x.want, errno, x.errno, "Play of %v", x.l)
		checkPlay(t, a, b, x.l)
	}
}

// P14.2: the script for no elements has no steps.
func TestPlayOfNoElements(t *testing.T) {
	for _, none := range [][]string{nil, {}} {
		for _, l := range [][]step{nil, {}} {
			got, errno := myers.Play(none, none, l)
			wantsList(t, got, nil, errno, api.OK, "Play of nothing")
			got, errno = myers.Play(none, words("x"), l)
			wantsList(t, got, nil, errno, api.ErrForm, "Play of no steps for an element that is new")
			got, errno = myers.Play(words("x"), none, l)
			wantsList(t, got, nil, errno, api.ErrForm, "Play of no steps for an element that is gone")
		}
		for _, s := range []step{keep(0, 0), gone(0), added(0), {Op: 3}, {Op: -1}} {
			got, errno := myers.Play(none, none, []step{s})
			wantsList(t, got, nil, errno, api.ErrForm, "Play of %v for nothing", s)
		}
	}
}

// Types: B is 0 for Gone, A is 0 for New; no other steps than the three kinds are of a script.
func TestPlayOfStepsThatAreNone(t *testing.T) {
	a, b := words("x y"), words("y z")
	script := []step{gone(0), keep(1, 0), added(1)}
	numbers := []int{math.MinInt, math.MinInt32, -1024, -2, -1, 0, 1, 2, 3, 4, 1024, math.MaxInt32, math.MaxInt}
	for at := range script {
		for _, n := range numbers {
			for _, wrong := range []step{{n, script[at].A, script[at].B}, {script[at].Op, n, script[at].B}, {script[at].Op, script[at].A, n}} {
				l := slices.Clone(script)
				l[at] = wrong
				want, wantErrno := b, api.OK
				if wrong != script[at] {
					want, wantErrno = nil, api.ErrForm
				}
				got, errno := myers.Play(a, b, l)
				wantsList(t, got, want, errno, wantErrno, "Play of %v", l)
			}
		}
	}
}

// P14.2: all short rows of steps, most of which are no script.
func TestPlayOfShortRows(t *testing.T) {
	var steps, near []step
	for op := -1; op <= 3; op++ {
		for i := -1; i <= 2; i++ {
			for j := -1; j <= 2; j++ {
				steps = append(steps, step{op, i, j})
				if 0 <= op && op <= 2 && i&1 == i && j&1 == j {
					near = append(near, step{op, i, j})
				}
			}
		}
	}
	rows := append(short(steps, 2), short(near, 4)...)
	for _, x := range [][2]string{{"", ""}, {"x", ""}, {"", "x"}, {"x", "x"}, {"x", "y"}, {"x x", "x"}, {"x y", "y x"}, {"x y", "x y"}, {"x x", "x x"}} {
		a, b := words(x[0]), words(x[1])
		for _, l := range rows {
			checkPlay(t, a, b, l)
		}
	}
}

// P14.2: all scripts for short lists, not the selected one alone.
func TestPlayOfAllScripts(t *testing.T) {
	all := short(words("x y"), 3)
	for _, a := range all {
		for _, b := range all {
			for _, l := range scripts(a, b, 0, 0) {
				got, errno := myers.Play(a, b, l)
				wantsList(t, got, b, errno, api.OK, "Play(%q, %q, %v)", a, b, l)
				for _, other := range all {
					checkPlay(t, a, other, l)
					checkPlay(t, other, b, l)
				}
			}
		}
	}
}

// P14.2: scripts of random lists, damaged.
func TestPlayOfDamagedScripts(t *testing.T) {
	random := rand.New(rand.NewSource(142))
	for range 3000 {
		a := randomList(random, random.Intn(12), 3)
		b := edited(random, a, random.Intn(6), 3)
		l, _ := myers.Diff(a, b)
		for range random.Intn(3) {
			l = damaged(random, l)
		}
		checkPlay(t, a, b, l)
		checkPlay(t, b, a, l)
	}
}

// P14.2: Play has no limit of its own.
func TestPlayOfGreatLists(t *testing.T) {
	for _, n := range []int{1024, 1025, 3000, 70000} {
		a, b := numbered("a", n), append(numbered("a", n), "more")
		var l []step
		for i := range n {
			l = append(l, keep(i, i))
		}
		l = append(l, added(n))
		got, errno := myers.Play(a, b, l)
		wantsList(t, got, b, errno, api.OK, "Play of %d", n)
		got, errno = myers.Play(a, b, l[:n])
		wantsList(t, got, nil, errno, api.ErrForm, "Play of %d without its last step", n)
	}
}

// What is passed is not modified, not even behind a list's length.
func TestPlayLeavesArguments(t *testing.T) {
	a, b := append(words("x y"), "behind")[:2], append(words("y z"), "behind")[:2]
	l := append([]step{gone(0), keep(1, 0), added(1)}, step{Op: 7})[:3]
	before := slices.Clone(l[:4])
	myers.Play(a, b, l)
	wants(t, strings.Join(a[:3], " "), "x y behind", "the first list")
	wants(t, strings.Join(b[:3], " "), "y z behind", "the second list")
	wantsList(t, l[:4], before, api.OK, api.OK, "the steps")
}

// What is returned shares no memory with what was passed.
func TestPlayIsNew(t *testing.T) {
	a, b := words("xx yy"), words("yy zz")
	l := []step{gone(0), keep(1, 0), added(1)}
	got, _ := myers.Play(a, b, l)
	for i, s := range got {
		for _, passed := range []string{a[1], b[i]} {
			if unsafe.StringData(s) == unsafe.StringData(passed) {
				t.Errorf("%q is a string that was passed", s)
			}
		}
		got[i] = "written over"
	}
	wants(t, strings.Join(a, " "), "xx yy", "the first list")
	wants(t, strings.Join(b, " "), "yy zz", "the second list")
	again, errno := myers.Play(a, b, l)
	wantsList(t, again, b, errno, api.OK, "Play again")
}

// damaged is l with one step taken out, doubled, changed, or exchanged with another.
func damaged(random *rand.Rand, l []step) []step {
	if len(l) == 0 {
		return []step{{random.Intn(3), random.Intn(2), random.Intn(2)}}
	}
	l = slices.Clone(l)
	i, j := random.Intn(len(l)), random.Intn(len(l))
	switch random.Intn(6) {
	case 0:
		return slices.Delete(l, i, i+1)
	case 1:
		return slices.Insert(l, i, l[j])
	case 2:
		l[i], l[j] = l[j], l[i]
	case 3:
		l[i].Op = random.Intn(4)
	case 4:
		l[i].A += random.Intn(3) - 1
	case 5:
		l[i].B += random.Intn(3) - 1
	}
	return l
}

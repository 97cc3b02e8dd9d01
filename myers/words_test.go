package myers_test

import (
	"math/rand"
	"slices"
	"strconv"
	"strings"
	"testing"

	"redwax/api"
	"redwax/myers"
)

type step = myers.Step

// The steps, by the numbers that the chapter gives their kinds.
func keep(i, j int) step { return step{Op: 0, A: i, B: j} }
func gone(i int) step    { return step{Op: 1, A: i} }
func added(j int) step   { return step{Op: 2, B: j} }

// wants fails the test if got is not what is wanted.
func wants[T comparable](t *testing.T, got, want T, format string, args ...any) {
	t.Helper()
	if got != want {
		t.Errorf(format+": %v, not %v", append(args, got, want)...)
	}
}

// wantsList fails the test if got is not what is wanted, or if it is not empty beside an error.
func wantsList[T comparable](t *testing.T, got, want []T, errno, wantErrno api.Errno, format string, args ...any) {
	t.Helper()
	if errno != wantErrno || !slices.Equal(got, want) {
		t.Errorf(format+": %.300v and %d, not %.300v and %d", append(args, got, errno, want, wantErrno)...)
	}
}

// words are the elements of a list that is written with spaces between them.
func words(s string) []string { return strings.Fields(s) }

// isScript reports whether l is an edit script for a and b, by the words.
func isScript(a, b []string, l []step) bool {
	var ofA, ofB []int
	for _, s := range l {
		switch {
		case s.Op == 0:
			ofA, ofB = append(ofA, s.A), append(ofB, s.B)
			if s.A < 0 || s.A >= len(a) || s.B < 0 || s.B >= len(b) || a[s.A] != b[s.B] {
				return false
			}
		case s.Op == 1 && s.B == 0:
			ofA = append(ofA, s.A)
		case s.Op == 2 && s.A == 0:
			ofB = append(ofB, s.B)
		default:
			return false
		}
	}
	return slices.Equal(ofA, upTo(len(a))) && slices.Equal(ofB, upTo(len(b)))
}

// upTo are the indices of a list of n elements.
func upTo(n int) []int {
	var l []int
	for i := range n {
		l = append(l, i)
	}
	return l
}

// playOf is P14.2's Play.
func playOf(a, b []string, l []step) ([]string, api.Errno) {
	if !isScript(a, b, l) {
		return nil, 4
	}
	var made []string
	for _, s := range l {
		switch s.Op {
		case 0:
			made = append(made, a[s.A])
		case 2:
			made = append(made, b[s.B])
		}
	}
	return made, 0
}

// scripts are all edit scripts for a[i:] and b[j:].
func scripts(a, b []string, i, j int) [][]step {
	if i == len(a) && j == len(b) {
		return [][]step{nil}
	}
	var all [][]step
	before := func(s step, behind [][]step) {
		for _, l := range behind {
			all = append(all, append([]step{s}, l...))
		}
	}
	if i < len(a) && j < len(b) && a[i] == b[j] {
		before(keep(i, j), scripts(a, b, i+1, j+1))
	}
	if i < len(a) {
		before(gone(i), scripts(a, b, i+1, j))
	}
	if j < len(b) {
		before(added(j), scripts(a, b, i, j+1))
	}
	return all
}

// kept is how many steps of l are Keep.
func kept(l []step) int {
	n := 0
	for _, s := range l {
		if s.Op == 0 {
			n++
		}
	}
	return n
}

// pair is two lists, and what has been found of their L.
type pair struct {
	a, b  []string
	found map[[2]int]int
}

// most is L(i, j): the best of each step that a script for the rests of the lists may begin with.
func (p pair) most(i, j int) int {
	if i == len(p.a) || j == len(p.b) {
		return 0
	}
	n, ok := p.found[[2]int{i, j}]
	if ok {
		return n
	}
	n = max(p.most(i+1, j), p.most(i, j+1))
	if p.a[i] == p.b[j] {
		n = max(n, 1+p.most(i+1, j+1))
	}
	p.found[[2]int{i, j}] = n
	return n
}

// selectedOf is the selected script, by the words.
func selectedOf(a, b []string) []step {
	p := pair{a, b, map[[2]int]int{}}
	var l []step
	for i, j := 0, 0; i < len(a) || j < len(b); {
		if i < len(a) && j < len(b) && a[i] == b[j] {
			l = append(l, keep(i, j))
			i, j = i+1, j+1
		} else if i < len(a) && (j == len(b) || p.most(i+1, j) >= p.most(i, j+1)) {
			l = append(l, gone(i))
			i++
		} else {
			l = append(l, added(j))
			j++
		}
	}
	return l
}

// short are all lists of at most n of some elements.
func short[T any](elements []T, n int) [][]T {
	all := [][]T{nil}
	from := 0
	for range n {
		to := len(all)
		for _, l := range all[from:to] {
			for _, e := range elements {
				all = append(all, append(slices.Clone(l), e))
			}
		}
		from = to
	}
	return all
}

// numbered are n strings that differ.
func numbered(prefix string, n int) []string {
	l := make([]string, n)
	for i := range l {
		l[i] = prefix + strconv.Itoa(i)
	}
	return l
}

// randomList is n strings, each one of so many different ones.
func randomList(random *rand.Rand, n, different int) []string {
	l := make([]string, n)
	for i := range l {
		l[i] = strings.Repeat("line ", 1+random.Intn(different))
	}
	return l
}

// edited is l with some elements taken out, added or exchanged.
func edited(random *rand.Rand, l []string, edits, different int) []string {
	l = slices.Clone(l)
	for range edits {
		at := random.Intn(len(l) + 1)
		switch {
		case random.Intn(2) == 0:
			l = slices.Insert(l, at, randomList(random, 1, different)...)
		case at < len(l):
			l = slices.Delete(l, at, at+1)
		}
	}
	return l
}

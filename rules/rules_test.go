package rules_test

import (
	"fmt"
	"math"
	"slices"
	"strings"
	"testing"

	"redwax/api"
	"redwax/label"
	"redwax/paths"
	"redwax/rules"
)

// at is a label by its Level and Comp.
func at(level int, comp uint64) api.Label {
	return api.Label{Level: level, Comp: comp}
}

// of is a table of the rules that r lists: a prefix, then its label.
func of(version int, r ...any) rules.Table {
	t := rules.Table{Version: version}
	for i := 0; i < len(r); i += 2 {
		t.Rules = append(t.Rules, api.Rule{Prefix: r[i].(string), Label: r[i+1].(api.Label)})
	}
	return t
}

// example is the table of the chapter's examples.
func example() rules.Table {
	return of(3, "", at(1, 0), "a", at(2, 1), "a/b", at(0, 0))
}

// many is a valid table of n rules, each with a label of its own.
func many(n int) rules.Table {
	t := rules.Table{Version: n}
	for i := range n {
		t.Rules = append(t.Rules, api.Rule{Prefix: fmt.Sprintf("p%03d", i), Label: at(i%16, uint64(i))})
	}
	return t
}

// over are the prefixes that cover s, the longest one first: s, and if it is a path, what is left
// of it without its last part, without its last two, and so on.
func over(s string) []string {
	l := []string{s}
	if paths.Check(s) != api.OK {
		return l
	}
	parts := strings.Split(s, "/")
	for n := len(parts) - 1; n >= 0; n-- {
		l = append(l, strings.Join(parts[:n], "/"))
	}
	return l
}

// labelOf looks for the rule of each prefix that covers the path, the longest one first.
func labelOf(t rules.Table, path string) api.Label {
	for _, prefix := range over(path) {
		for _, r := range t.Rules {
			if r.Prefix == prefix {
				return r.Label
			}
		}
	}
	return api.Label{}
}

// touchedBy looks for the prefix among those that cover each rule's prefix.
func touchedBy(t rules.Table, prefix string) []api.Label {
	l := []api.Label{labelOf(t, prefix)}
	for _, r := range t.Rules {
		if slices.Contains(over(r.Prefix), prefix) && !slices.Contains(l, r.Label) {
			l = append(l, r.Label)
		}
	}
	slices.SortFunc(l, func(a, b api.Label) int {
		if a.Level < b.Level || a.Level == b.Level && a.Comp < b.Comp {
			return -1
		}
		return 1
	})
	return l
}

// someStrings are paths, some of which cover others, and strings that are none.
func someStrings() []string {
	return append(somePaths(), noPaths()...)
}

// somePaths are all paths of at most three of a few parts, some of which begin with others, and
// some paths at the bounds.
func somePaths() []string {
	var l []string
	parts := []string{"a", "b", "ab", "a.b", "-"}
	for _, x := range parts {
		l = append(l, x)
		for _, y := range parts {
			l = append(l, x+"/"+y)
			for _, z := range parts {
				l = append(l, x+"/"+y+"/"+z)
			}
		}
	}
	return append(l, "1/2/3/4/5/6/7/8", "a/a/a/a/a/a/a/a", strings.Repeat("x", 60), "a/"+strings.Repeat("x", 58))
}

// noPaths are strings that are neither paths nor empty.
func noPaths() []string {
	return []string{
		"/", "/a", "a/", "a//b", "a/b/", "//", ".", "..", "a/.", "a/..", "a/../b", "./a", " ", "a b", "a/b c", "a\n", "a\x00", "\x00", "\xff", "a/\xff", "\u00e9", "a:b", "*", "a/*",
		"1/2/3/4/5/6/7/8/9", strings.Repeat("x", 61), "a/" + strings.Repeat("x", 59), strings.Repeat("a/", 1000),
	}
}

// someTables are valid tables and others.
func someTables() []rules.Table {
	return []rules.Table{
		{}, example(), many(1), many(31), many(32), many(33), many(300),
		of(1, "", at(15, math.MaxUint64)),
		of(1, "a", at(3, 0)),
		of(9, "a", at(1, 0), "a-b", at(2, 0), "a.b", at(3, 0), "a.b/a", at(3, 7), "a/a", at(4, 0), "a/a/a", at(5, 0), "a/a/a/a/a/a/a/a", at(9, 0), "a/b/a", at(6, 0), "ab", at(7, 0), "ab/b", at(1, 0)),
		of(2, "a/b", at(1, 4), "a/b/a", at(0, 0)),
		of(2, "", at(2, 2), "a", at(2, 2), "b", at(2, 2), "b/b", at(2, 2)),
		of(2, "1/2/3/4", at(1, 1), "1/2/3/4/5/6/7/8", at(2, 2), strings.Repeat("x", 60), at(3, 3)),
		// no order, one prefix several times, labels that are not valid, prefixes that are none
		of(0, "a/b", at(3, 0), "", at(1, 0), "a", at(2, 0)),
		of(3, "a", at(1, 0), "a", at(2, 0), "a", at(3, 0)),
		of(5, "", at(4, 0), "", at(5, 0), "a/b", at(6, 0), "a", at(7, 0), "a/b", at(8, 0), "a", at(9, 0)),
		of(-1, "a", at(-1, 0), "b", at(16, 5), "ab", at(math.MinInt, 0), "a/b", at(math.MaxInt, 1)),
		of(40, "/", at(1, 0), "a/", at(2, 0), "a//b", at(3, 0), ".", at(4, 0), "a b", at(5, 0), "\xff", at(6, 0), "1/2/3/4/5/6/7/8/9", at(7, 0), strings.Repeat("x", 61), at(8, 0), "a", at(9, 0)),
		of(40, "a", at(9, 0), "..", at(1, 0), "/a", at(2, 0), "a/..", at(3, 0), "a/.", at(4, 0), "a/*", at(5, 0), "\x00", at(6, 0), "a\n", at(7, 0), "", at(8, 0)),
	}
}

// The chapter's examples.
func TestExamples(t *testing.T) {
	for _, c := range []struct {
		path string
		want api.Label
	}{{"x", at(1, 0)}, {"a", at(2, 1)}, {"ab", at(1, 0)}, {"a/c", at(2, 1)}, {"a/b", at(0, 0)}, {"a/b/c", at(0, 0)}} {
		if got := rules.Find(example(), c.path); got != c.want {
			t.Errorf("Find of %q is %v", c.path, got)
		}
	}
	for _, c := range []struct {
		prefix string
		want   []api.Label
	}{{"a", []api.Label{at(0, 0), at(2, 1)}}, {"a/b", []api.Label{at(0, 0)}}, {"", []api.Label{at(0, 0), at(1, 0), at(2, 1)}}} {
		if got := rules.Touched(example(), c.prefix); !slices.Equal(got, c.want) {
			t.Errorf("Touched of %q is %v", c.prefix, got)
		}
	}
	u, errno := rules.With(example(), "a", at(3, 0))
	if errno != api.OK || u.Version != 4 || rules.Find(u, "a/c") != at(3, 0) || rules.Find(u, "a/b") != at(0, 0) {
		t.Errorf("With a, 3:0 is %v, error %d", u, errno)
	}
	if _, errno := rules.With(example(), "a//b", at(1, 0)); errno != api.ErrPrefix {
		t.Errorf("With a//b: error %d", errno)
	}
	if _, errno := rules.With(example(), "a", at(16, 0)); errno != api.ErrArg {
		t.Errorf("With a, 16:0: error %d", errno)
	}
	if got := rules.Text(example()); got != "v3\n1:0 \n2:1 a\n0:0 a/b" {
		t.Errorf("Text is %q", got)
	}
}

// P7.1: valid tables, those at the bounds among them.
func TestCheck(t *testing.T) {
	for i, table := range []rules.Table{
		{}, {Rules: []api.Rule{}}, {Version: 1}, {Version: math.MaxInt}, example(),
		of(1, "", at(0, 0)), of(1, "a", at(0, 0)), of(7, "a", at(15, math.MaxUint64)),
		of(2, "a", at(0, 0), "b", at(0, 0)), of(2, "a", at(1, 0), "a/b", at(1, 0)), of(2, "", at(1, 0), strings.Repeat("x", 60), at(1, 0)),
		of(6, "", at(0, 0), "-", at(0, 0), ".a", at(0, 0), "0", at(0, 0), "A", at(0, 0), "_", at(0, 0)),
		of(5, "a", at(0, 0), "a-b", at(0, 0), "a.b", at(0, 0), "a/b", at(0, 0), "ab", at(0, 0)),
		of(2, "1/2/3/4/5/6/7", at(0, 0), "1/2/3/4/5/6/7/8", at(0, 0)),
		many(31), many(32),
	} {
		if got := rules.Check(table); got != api.OK {
			t.Errorf("table %d: Check returns %d", i, got)
		}
	}
}

// P7.1: the number of rules, and the Version beside it.
func TestCheckOfManyRules(t *testing.T) {
	for n := range 70 {
		for _, version := range []int{math.MinInt, -n, -1, 0, n - 1, n, n + 1, 32, 33, 1000, math.MaxInt} {
			table := many(n)
			table.Version = version
			want := api.ErrArg
			if n <= 32 && version >= n {
				want = api.OK
			}
			if got := rules.Check(table); got != want {
				t.Errorf("%d rules, Version %d: Check returns %d", n, version, got)
			}
		}
	}
	if got := rules.Check(many(1 << 16)); got != api.ErrArg {
		t.Errorf("Check of many rules returns %d", got)
	}
}

// P7.1: prefixes that are the same or turned, at each place.
func TestCheckOfTheOrder(t *testing.T) {
	inOrder := []string{"", "-", "0", "A", "a", "a-b", "a.b", "a/a", "a/b", "a0", "aB", "ab", "b"}
	for i, p := range inOrder {
		for j, q := range inOrder {
			want := api.ErrArg
			if i < j {
				want = api.OK
			}
			if got := rules.Check(of(9, p, at(1, 0), q, at(2, 0))); got != want {
				t.Errorf("%q ahead of %q: Check returns %d", p, q, got)
			}
		}
	}
	for i := range 31 {
		turned, twice := many(32), many(32)
		turned.Rules[i], turned.Rules[i+1] = turned.Rules[i+1], turned.Rules[i]
		twice.Rules[i+1] = twice.Rules[i]
		if rules.Check(turned) != api.ErrArg || rules.Check(twice) != api.ErrArg {
			t.Errorf("place %d: Check returns %d, %d", i, rules.Check(turned), rules.Check(twice))
		}
	}
}

// P7.1: a prefix or a label that is not valid, at each place.
func TestCheckOfEachRule(t *testing.T) {
	for i := range 8 {
		for level := -3; level < 20; level++ {
			table := many(8)
			table.Rules[i].Label = at(level, 5)
			if got, want := rules.Check(table), label.Check(at(level, 5)); got != want {
				t.Errorf("Level %d at place %d: Check returns %d", level, i, got)
			}
		}
		for _, s := range []string{"p00%d/", "p00%d//a", "p00%d/.", "p00%d a", "p00%d\x00", "p00%d/1/2/3/4/5/6/7/8", "p00%d" + strings.Repeat("x", 57)} {
			table := many(8)
			table.Rules[i].Prefix = fmt.Sprintf(s, i)
			if got := rules.Check(table); got != api.ErrArg {
				t.Errorf("%q at place %d: Check returns %d", table.Rules[i].Prefix, i, got)
			}
		}
	}
	for _, s := range noPaths() {
		if got := rules.Check(of(1, s, at(0, 0))); got != api.ErrArg {
			t.Errorf("%q: Check returns %d", s, got)
		}
	}
}

// P7.2: no rule covers the path.
func TestFindOfNone(t *testing.T) {
	for _, path := range append(someStrings(), "") {
		for _, table := range []rules.Table{{}, {Version: 9}, of(1, "z", at(3, 3)), of(3, "z/a", at(1, 1), "z/a/b", at(2, 2), "zz", at(3, 3))} {
			if got := rules.Find(table, path); got != at(0, 0) {
				t.Errorf("Find of %q is %v", path, got)
			}
		}
	}
}

// P7.2: the longest prefix counts, wherever in the table it is.
func TestFindTheLongest(t *testing.T) {
	all := []api.Rule{{Prefix: "", Label: at(1, 0)}, {Prefix: "a", Label: at(2, 0)}, {Prefix: "a/b", Label: at(3, 0)}, {Prefix: "a/b/c", Label: at(4, 0)}}
	for n := range 4 * 4 * 4 * 4 {
		table := rules.Table{Rules: []api.Rule{all[n%4], all[n/4%4], all[n/16%4], all[n/64]}}
		for _, path := range []string{"", "a", "a/b", "a/b/c", "a/b/c/d", "a/b/d", "a/d", "ab", "a/bc", "d"} {
			if got, want := rules.Find(table, path), labelOf(table, path); got != want {
				t.Errorf("Find of %q in %v is %v", path, table.Rules, got)
			}
		}
	}
}

// P7.2: of rules that have one prefix, the first counts, whatever stands between them.
func TestFindTheFirst(t *testing.T) {
	for _, prefix := range []string{"", "a", "a/b"} {
		table := of(0, "x", at(1, 0), prefix, at(0, 7), "a/b/c", at(2, 0), prefix, at(0, 8), prefix, at(0, 6))
		for _, path := range []string{"a/b", "a/b/d"} {
			if got := rules.Find(table, path); got != at(0, 7) {
				t.Errorf("Find of %q behind rules of %q is %v", path, prefix, got)
			}
		}
	}
}

// P7.2: what is no path is covered by the same string alone, not by the empty prefix; the empty
// string is covered by the empty prefix.
func TestFindOfNoPath(t *testing.T) {
	for _, s := range noPaths() {
		table := of(2, "", at(1, 0), "a", at(2, 0), "1/2/3/4/5/6/7/8", at(3, 0), strings.Repeat("x", 60), at(4, 0))
		if got := rules.Find(table, s); got != at(0, 0) {
			t.Errorf("Find of %q is %v", s, got)
		}
		table.Rules = append(table.Rules, api.Rule{Prefix: s, Label: at(5, 5)})
		if got := rules.Find(table, s); got != at(5, 5) {
			t.Errorf("Find of %q is %v where it has a rule", s, got)
		}
	}
	if got := rules.Find(of(2, "a", at(2, 0), "", at(1, 0)), ""); got != at(1, 0) {
		t.Errorf("Find of the empty string is %v", got)
	}
	if got := rules.Find(of(1, "a", at(2, 0)), ""); got != at(0, 0) {
		t.Errorf("Find of the empty string is %v where it has no rule", got)
	}
}

// P7.2: all tables and all strings.
func TestFind(t *testing.T) {
	for i, table := range someTables() {
		for _, path := range append(someStrings(), "", "p000", "p000/a", "p031", "p299") {
			if got, want := rules.Find(table, path), labelOf(table, path); got != want {
				t.Errorf("table %d: Find of %q is %v, not %v", i, path, got, want)
			}
		}
	}
}

// P7.4: the empty prefix, with and without a rule; strings that are no paths; rules with one prefix.
func TestTouchedAtTheEdges(t *testing.T) {
	for i, c := range []struct {
		table  rules.Table
		prefix string
		want   []api.Label
	}{
		{rules.Table{}, "", []api.Label{at(0, 0)}},
		{rules.Table{}, "a", []api.Label{at(0, 0)}},
		{rules.Table{}, "a//b", []api.Label{at(0, 0)}},
		{of(1, "", at(1, 0)), "", []api.Label{at(1, 0)}},
		{of(1, "", at(1, 0)), "a", []api.Label{at(1, 0)}},
		{of(1, "", at(1, 0)), "a//b", []api.Label{at(0, 0)}},
		{of(1, "a", at(1, 0)), "", []api.Label{at(0, 0), at(1, 0)}},
		{of(2, "a", at(1, 0), "b", at(1, 0)), "", []api.Label{at(0, 0), at(1, 0)}},
		{of(2, "a", at(2, 0), "ab", at(1, 0)), "a", []api.Label{at(2, 0)}},
		{of(2, "a", at(2, 0), "a/b", at(1, 9)), "a", []api.Label{at(1, 9), at(2, 0)}},
		{of(2, "a", at(2, 0), "a/b", at(2, 0)), "a", []api.Label{at(2, 0)}},
		{of(2, "a", at(2, 0), "a/b", at(1, 0)), "a/b/c", []api.Label{at(1, 0)}},
		{of(2, "a", at(2, 0), "a/b", at(1, 0)), "a/c", []api.Label{at(2, 0)}},
		{of(2, "a", at(2, 0), "a", at(1, 0)), "a", []api.Label{at(1, 0), at(2, 0)}},
		{of(2, "a", at(2, 0), "a", at(1, 0)), "a/b", []api.Label{at(2, 0)}},
		{of(1, "a//b", at(1, 0)), "a//b", []api.Label{at(1, 0)}},
		{of(1, "a//b", at(1, 0)), "a", []api.Label{at(0, 0)}},
		{of(1, "a//b", at(1, 0)), "", []api.Label{at(0, 0)}},
		{of(1, "a//b/c", at(1, 0)), "a//b", []api.Label{at(0, 0)}},
		{of(2, "a", at(-1, 0), "b", at(16, 0)), "", []api.Label{at(-1, 0), at(0, 0), at(16, 0)}},
	} {
		if got := rules.Touched(c.table, c.prefix); !slices.Equal(got, c.want) {
			t.Errorf("row %d: Touched of %q is %v", i, c.prefix, got)
		}
	}
}

// P7.4, P7.7: all tables and all strings.
func TestTouched(t *testing.T) {
	for i, table := range someTables() {
		for _, prefix := range append(someStrings(), "", "p000", "p000/a", "p031", "p299") {
			if got, want := rules.Touched(table, prefix), touchedBy(table, prefix); !slices.Equal(got, want) {
				t.Errorf("table %d: Touched of %q is %v, not %v", i, prefix, got, want)
			}
		}
	}
}

// P7.7: the label of each path under a prefix is touched.
func TestLabelsUnderAPrefixAreTouched(t *testing.T) {
	for i, table := range someTables() {
		for _, prefix := range append(somePaths(), "") {
			touched := rules.Touched(table, prefix)
			for _, path := range somePaths() {
				if paths.Under(prefix, path) && !slices.Contains(touched, rules.Find(table, path)) {
					t.Fatalf("table %d: the label of %q is not touched by %q", i, path, prefix)
				}
			}
		}
	}
}

// P7.5: tables that are valid and others.
func TestText(t *testing.T) {
	for _, c := range []struct {
		table rules.Table
		want  string
	}{
		{rules.Table{}, "v0"},
		{rules.Table{Rules: []api.Rule{}}, "v0"},
		{rules.Table{Version: 10}, "v10"},
		{rules.Table{Version: -7}, "v-7"},
		{rules.Table{Version: math.MaxInt}, "v9223372036854775807"},
		{rules.Table{Version: math.MinInt}, "v-9223372036854775808"},
		{of(1, "", at(0, 0)), "v1\n0:0 "},
		{of(2, "src/main.go", at(15, math.MaxUint64)), "v2\n15:ffffffffffffffff src/main.go"},
		{of(12, "b", at(10, 0x1f), "a", at(0, 10)), "v12\n10:1f b\n0:a a"},
		{of(2, "a", at(1, 0), "a", at(1, 0)), "v2\n1:0 a\n1:0 a"},
		{of(1, "a", at(16, 0), "b", at(-1, 3)), "v1\n? a\n? b"},
		{of(1, "a b\n", at(1, 0), "\xff%d", at(2, 0)), "v1\n1:0 a b\n\n2:0 \xff%d"},
	} {
		if got := rules.Text(c.table); got != c.want {
			t.Errorf("Text is %q, not %q", got, c.want)
		}
	}
}

// P7.5: a line for each rule, of many, too.
func TestTextOfManyRules(t *testing.T) {
	for _, n := range []int{31, 32, 33, 1 << 16} {
		table := many(n)
		lines := strings.Split(rules.Text(table), "\n")
		if len(lines) != n+1 || lines[0] != fmt.Sprintf("v%d", n) {
			t.Fatalf("%d rules: %d lines, the first one %q", n, len(lines), lines[0])
		}
		for i, r := range table.Rules {
			if want := fmt.Sprintf("%d:%x %s", r.Label.Level, r.Label.Comp, r.Prefix); lines[i+1] != want {
				t.Fatalf("%d rules: line %d is %q", n, i+1, lines[i+1])
			}
		}
	}
}

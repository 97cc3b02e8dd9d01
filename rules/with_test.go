package rules_test

import (
	"fmt"
	"math"
	"slices"
	"strings"
	"testing"
	"unsafe"

	"redwax/api"
	"redwax/paths"
	"redwax/rules"
)

// isTable reports whether got is a table with this Version and these rules.
func isTable(got rules.Table, version int, r []api.Rule) bool {
	return got.Version == version && slices.Equal(got.Rules, r)
}

// failsWith checks that With returns an error, and nothing beside it.
func failsWith(t *testing.T, table rules.Table, prefix string, l api.Label, want api.Errno) {
	t.Helper()
	got, errno := rules.With(table, prefix, l)
	if errno != want || got.Version != 0 || got.Rules != nil {
		t.Errorf("With %q, %v returns error %d, not %d, and %v", prefix, l, errno, want, got)
	}
}

// P7.3: a rule that is new, ahead of all, between two, behind all, or the only one.
func TestWithANewRule(t *testing.T) {
	between := of(4, "b", at(1, 0), "b/d", at(2, 0), "d", at(3, 0))
	for _, c := range []struct {
		prefix string
		place  int
	}{{"", 0}, {"B", 0}, {"a", 0}, {"b-d", 1}, {"b/c", 1}, {"b/e", 2}, {"b0", 2}, {"c", 2}, {"d/a", 3}, {"e", 3}} {
		want := slices.Insert(slices.Clone(between.Rules), c.place, api.Rule{Prefix: c.prefix, Label: at(9, 9)})
		if got, errno := rules.With(between, c.prefix, at(9, 9)); errno != api.OK || !isTable(got, 5, want) {
			t.Errorf("With %q is %v, error %d", c.prefix, got, errno)
		}
	}
	for _, prefix := range append(somePaths(), "") {
		want := []api.Rule{{Prefix: prefix, Label: at(15, math.MaxUint64)}}
		if got, errno := rules.With(rules.Table{}, prefix, at(15, math.MaxUint64)); errno != api.OK || !isTable(got, 1, want) {
			t.Errorf("With %q is %v, error %d", prefix, got, errno)
		}
	}
}

// P7.3: a rule that is there gets another label, or the same once more, at each place.
func TestWithARuleThatIsThere(t *testing.T) {
	for _, n := range []int{1, 2, 5, 31, 32} {
		for i := range n {
			table := many(n)
			table.Version = 77
			for _, l := range []api.Label{at(0, 0), at(15, 1<<63), table.Rules[i].Label} {
				want := slices.Clone(table.Rules)
				want[i].Label = l
				got, errno := rules.With(table, table.Rules[i].Prefix, l)
				if errno != api.OK || !isTable(got, 78, want) {
					t.Errorf("%d rules, place %d: With returns %v, error %d", n, i, got, errno)
				}
			}
		}
	}
}

// P7.3: a full table takes no other rule, but other labels.
func TestWithAFullTable(t *testing.T) {
	for _, prefix := range []string{"", "a", "p", "p000/a", "p0000", "p031/a", "p032", "z"} {
		failsWith(t, many(32), prefix, at(1, 0), api.ErrFull)
		if got, errno := rules.With(many(31), prefix, at(1, 0)); errno != api.OK || len(got.Rules) != 32 || got.Version != 32 {
			t.Errorf("With %q as the last one is %v, error %d", prefix, got, errno)
		}
	}
	if got, errno := rules.With(many(32), "p031", at(1, 0)); errno != api.OK || len(got.Rules) != 32 || got.Version != 33 {
		t.Errorf("With a prefix of a full table is %v, error %d", got, errno)
	}
}

// P7.3: prefixes that are none, whatever else is wrong.
func TestWithNoPrefix(t *testing.T) {
	wrong := of(0, "a", at(1, 0))
	for _, s := range noPaths() {
		failsWith(t, rules.Table{}, s, at(0, 0), api.ErrPrefix)
		failsWith(t, example(), s, at(16, 0), api.ErrPrefix)
		failsWith(t, wrong, s, at(0, 0), api.ErrPrefix)
		failsWith(t, wrong, s, at(-1, 0), api.ErrPrefix)
		failsWith(t, many(32), s, at(0, 0), api.ErrPrefix)
		failsWith(t, many(33), s, at(0, 0), api.ErrPrefix)
		failsWith(t, of(9, s, at(1, 0)), s, at(0, 0), api.ErrPrefix)
	}
}

// P7.3: labels and tables that are not valid; they count ahead of a full table.
func TestWithWrongArguments(t *testing.T) {
	for _, prefix := range []string{"", "a", "z", "p000"} {
		for _, level := range []int{math.MinInt, -16, -1, 16, 17, 256, math.MaxInt} {
			failsWith(t, rules.Table{}, prefix, at(level, 0), api.ErrArg)
			failsWith(t, example(), prefix, at(level, 7), api.ErrArg)
			failsWith(t, many(32), prefix, at(level, 0), api.ErrArg)
			failsWith(t, of(9, "a", at(level, 0)), prefix, at(1, 0), api.ErrArg)
		}
		for _, table := range append(someTables(), rules.Table{Version: -1}, rules.Table{Version: math.MinInt}) {
			if rules.Check(table) != api.OK {
				failsWith(t, table, prefix, at(1, 0), api.ErrArg)
			}
		}
		short := many(32)
		short.Version = 31
		failsWith(t, short, prefix, at(1, 0), api.ErrArg)
		failsWith(t, many(33), prefix, at(1, 0), api.ErrArg)
	}
}

// P7.3: many changes, one upon the other, held against a map of prefixes and their labels: of few
// prefixes, which come back, and of more than a table holds.
func TestWithManyChanges(t *testing.T) {
	all := append([]string{""}, somePaths()...)
	for seed := range uint32(40) {
		from := all[:20]
		if seed%2 == 1 {
			from = all
		}
		var table rules.Table
		known := map[string]api.Label{}
		x := seed
		for range 120 {
			x = x*1664525 + 1013904223
			prefix, l := from[int(x>>8)%len(from)], at(int(x>>28), uint64(x>>4))
			if _, there := known[prefix]; !there && len(known) == 32 {
				failsWith(t, table, prefix, l, api.ErrFull)
				continue
			}
			known[prefix] = l
			got, errno := rules.With(table, prefix, l)
			if errno != api.OK || got.Version != table.Version+1 || !hasJust(got, known) {
				t.Fatalf("seed %d: With %q is %v, error %d", seed, prefix, got, errno)
			}
			table = got
		}
	}
}

// hasJust reports whether the table is valid and its rules are those of the map.
func hasJust(table rules.Table, known map[string]api.Label) bool {
	for _, r := range table.Rules {
		if l, there := known[r.Prefix]; !there || l != r.Label {
			return false
		}
	}
	return rules.Check(table) == api.OK && len(table.Rules) == len(known)
}

// P7.6: a change gives its label to what is under it and under no longer prefix, and leaves the
// rest; the table stays valid.
func TestOnlyWhatIsUnderIt(t *testing.T) {
	for i, table := range someTables() {
		if rules.Check(table) != api.OK || len(table.Rules) == 32 {
			continue
		}
		for _, prefix := range append(somePaths(), "") {
			u, errno := rules.With(table, prefix, at(13, 13))
			if errno != api.OK || rules.Check(u) != api.OK || u.Version != table.Version+1 {
				t.Fatalf("table %d: With %q is %v, error %d", i, prefix, u, errno)
			}
			for _, path := range somePaths() {
				want := rules.Find(table, path)
				if paths.Under(prefix, path) && !hasLonger(table, prefix, path) {
					want = at(13, 13)
				}
				if got := rules.Find(u, path); got != want {
					t.Fatalf("table %d: With %q, the label of %q is %v, not %v", i, prefix, path, got, want)
				}
			}
		}
	}
}

// hasLonger reports whether a longer prefix of the table than this one covers the path.
func hasLonger(table rules.Table, prefix, path string) bool {
	return slices.ContainsFunc(table.Rules, func(r api.Rule) bool {
		return len(r.Prefix) > len(prefix) && paths.Under(r.Prefix, path)
	})
}

// P7.8: neither the rules that are passed nor those behind them are changed.
func TestArgumentsAreLeftAlone(t *testing.T) {
	for i, table := range append(someTables(), of(9, "d", at(1, 0), "b", at(2, 0), "c", at(1, 0), "b", at(0, 0))) {
		whole := slices.Concat(table.Rules, many(4).Rules)
		kept := slices.Clone(whole)
		for n := range min(len(whole), 40) {
			part := rules.Table{Version: n, Rules: whole[:n]}
			rules.Check(part)
			rules.Text(part)
			for _, prefix := range []string{"", "a", "a/b", "p000", "p001", "zz", "a//b"} {
				rules.Find(part, prefix)
				rules.Touched(part, prefix)
				rules.With(part, prefix, at(9, 9))
			}
			if !slices.Equal(whole, kept) {
				t.Fatalf("table %d: its first %d rules, or those behind them, are changed", i, n)
			}
		}
	}
}

// P7.8: what With returns, what it is passed, and what it returns next are apart.
func TestTablesAreNew(t *testing.T) {
	for _, prefix := range []string{"", "a", "a/b", "a/c", "z"} {
		given := example()
		got, _ := rules.With(given, prefix, at(7, 7))
		again, _ := rules.With(given, prefix, at(7, 7))
		want := slices.Clone(got.Rules)
		for i := range got.Rules {
			got.Rules[i] = api.Rule{Prefix: "changed", Label: at(8, 8)}
		}
		_ = append(got.Rules, api.Rule{})
		if !isTable(given, 3, example().Rules) || !isTable(again, 4, want) {
			t.Errorf("With %q shares its rules", prefix)
		}
		clear(given.Rules)
		if !isTable(again, 4, want) {
			t.Errorf("With %q keeps the rules that it is passed", prefix)
		}
	}
}

// P7.8: two changes of one table, and a change of a change, don't disturb each other.
func TestTablesAreApart(t *testing.T) {
	first, _ := rules.With(example(), "c", at(1, 1))
	kept := slices.Clone(first.Rules)
	for i := range 20 {
		other, errno := rules.With(first, fmt.Sprintf("b%d", i), at(2, 2))
		if _, errnoAgain := rules.With(other, "", at(3, 3)); errno != api.OK || errnoAgain != api.OK {
			t.Fatalf("change %d: errors %d, %d", i, errno, errnoAgain)
		}
		if !isTable(first, 4, kept) {
			t.Fatalf("change %d changed the table that it was made of", i)
		}
	}
}

// P7.8: a table doesn't keep the texts out of which its prefixes were cut.
func TestTablesKeepNoText(t *testing.T) {
	text := strings.Repeat("reclassify 1:0 a/bc/d\n", 1000)
	given := rules.Table{Version: 1, Rules: []api.Rule{{Prefix: text[15:19], Label: at(1, 0)}}}
	for _, prefix := range []string{text[15:21], text[15:19]} {
		got, errno := rules.With(given, prefix, at(2, 0))
		if errno != api.OK {
			t.Fatalf("With %q: error %d", prefix, errno)
		}
		for _, r := range got.Rules {
			if unsafe.StringData(r.Prefix) == unsafe.StringData(prefix) {
				t.Errorf("With %q, the prefix %q is a piece of the text", prefix, r.Prefix)
			}
		}
	}
}

// P7.8: what Touched returns is changed; what it returns next, and the table, are not.
func TestLabelsAreNew(t *testing.T) {
	for _, table := range someTables() {
		kept := slices.Clone(table.Rules)
		for _, prefix := range []string{"", "a", "p000", "a//b"} {
			got, again := rules.Touched(table, prefix), rules.Touched(table, prefix)
			want := slices.Clone(got)
			for i := range got {
				got[i] = at(99, 99)
			}
			_ = append(got, at(98, 98))
			if !slices.Equal(again, want) || !slices.Equal(rules.Touched(table, prefix), want) || !slices.Equal(table.Rules, kept) {
				t.Errorf("the labels that %q touches are shared", prefix)
			}
		}
	}
}

// P7.8: no call panics, whatever it is passed.
func TestNoPanic(t *testing.T) {
	long := strings.Repeat("a/", 1<<16)
	tables := append(someTables(), of(1, long, at(1, 0), long+"b", at(2, 0)), rules.Table{Version: math.MaxInt}, rules.Table{Version: math.MinInt, Rules: make([]api.Rule, 40)})
	for _, table := range tables {
		rules.Check(table)
		rules.Text(table)
		for _, s := range append(someStrings(), "", long, long+"b") {
			for _, level := range []int{math.MinInt, 0, math.MaxInt} {
				rules.With(table, s, at(level, math.MaxUint64))
			}
			rules.Find(table, s)
			rules.Touched(table, s)
		}
	}
}

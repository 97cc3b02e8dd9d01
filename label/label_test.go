package label_test

import (
	"math"
	"slices"
	"testing"

	"redwax/api"
	"redwax/label"
)

var public = api.Label{}

// top is written out anew, for what label.Top returns to be held against.
var top = api.Label{Level: 15, Comp: 0xffffffffffffffff}

// levels are those around the bounds of the valid ones, some between, and the ends; in order.
var levels = []int{math.MinInt, math.MinInt + 1, -256, -16, -2, -1, 0, 1, 2, 9, 10, 14, 15, 16, 17, 255, 256, 1 << 32, math.MaxInt}

// comps are in order, too.
var comps = []uint64{
	0, 1, 2, 3, 5, 6, 7, 0x1f, 0xff, 1<<31 - 1, 1 << 31, 1 << 32, 1<<32 | 1, 0x123456789abcdef0, 1 << 62,
	0x5555555555555555, 1<<63 - 1, 1 << 63, 1<<63 | 1, 0xaaaaaaaaaaaaaaaa, math.MaxUint64 - 1, math.MaxUint64,
}

// allLabels are those of all levels and comps, in order.
func allLabels() []api.Label {
	var l []api.Label
	for _, level := range levels {
		for _, c := range comps {
			l = append(l, api.Label{Level: level, Comp: c})
		}
	}
	return l
}

func isValid(a api.Label) bool {
	return 0 <= a.Level && a.Level <= 15
}

func validLabels() []api.Label {
	return slices.DeleteFunc(allLabels(), func(a api.Label) bool { return !isValid(a) })
}

// fewLabels are some, among them valid ones and others, of which three at a time can be taken.
func fewLabels() []api.Label {
	var l []api.Label
	for _, level := range []int{math.MinInt, -1, 0, 7, 15, 16} {
		for _, c := range []uint64{0, 1, 3, 5, 7, 1 << 63, 1<<63 | 2, math.MaxUint64} {
			l = append(l, api.Label{Level: level, Comp: c})
		}
	}
	return l
}

// has reports whether a compartment is one of c.
func has(c uint64, compartment int) bool {
	return c>>compartment%2 == 1
}

// isBelow goes through the compartments one by one, by the words of the chapter.
func isBelow(a, b api.Label) bool {
	for i := range 64 {
		if has(a.Comp, i) && !has(b.Comp, i) {
			return false
		}
	}
	return a.Level <= b.Level
}

// isBefore is the order: by Level, then by Comp.
func isBefore(a, b api.Label) bool {
	return a.Level < b.Level || a.Level == b.Level && a.Comp < b.Comp
}

// The chapter's examples; those of texts are with the tests of these.
func TestExamples(t *testing.T) {
	if !label.Below(api.Label{Level: 1, Comp: 3}, api.Label{Level: 2, Comp: 7}) {
		t.Error("{1, 3} is not below {2, 7}")
	}
	if label.Below(api.Label{Level: 1, Comp: 3}, api.Label{Level: 2, Comp: 5}) {
		t.Error("{1, 3} is below {2, 5}")
	}
	if label.Below(api.Label{Level: 2, Comp: 0}, api.Label{Level: 1, Comp: 0}) {
		t.Error("{2, 0} is below {1, 0}")
	}
	a, b := api.Label{Level: 1, Comp: 3}, api.Label{Level: 2, Comp: 5}
	if got := label.Join(a, b); got != (api.Label{Level: 2, Comp: 7}) {
		t.Errorf("Join is %v", got)
	}
	if got := label.Meet(a, b); got != (api.Label{Level: 1, Comp: 1}) {
		t.Errorf("Meet is %v", got)
	}
	got := label.Sorted([]api.Label{{Level: 2}, {Level: 1, Comp: 9}, {Level: 2}, {Level: 1, Comp: 3}})
	if want := []api.Label{{Level: 1, Comp: 3}, {Level: 1, Comp: 9}, {Level: 2}}; !slices.Equal(got, want) {
		t.Errorf("Sorted is %v", got)
	}
}

// P5.1: Check; the compartments don't count.
func TestCheck(t *testing.T) {
	for _, c := range comps {
		for level := range 16 {
			if got := label.Check(api.Label{Level: level, Comp: c}); got != api.OK {
				t.Errorf("Check({%d, %x}) = %d", level, c, got)
			}
		}
		for _, level := range []int{math.MinInt, math.MinInt + 15, -1 << 32, -256, -16, -15, -2, -1, 16, 17, 31, 256, 1 << 32, math.MaxInt} {
			if got := label.Check(api.Label{Level: level, Comp: c}); got != api.ErrArg {
				t.Errorf("Check({%d, %x}) = %d", level, c, got)
			}
		}
	}
}

// P5.1: Top.
func TestTop(t *testing.T) {
	if got := label.Top(); got != top || label.Check(got) != api.OK {
		t.Errorf("Top is %v", got)
	}
}

// P5.1: Below, of labels that are not valid, too.
func TestBelow(t *testing.T) {
	for _, a := range allLabels() {
		for _, b := range allLabels() {
			if got, want := label.Below(a, b), isBelow(a, b); got != want {
				t.Fatalf("Below(%v, %v) = %t", a, b, got)
			}
		}
	}
}

// P5.1: each compartment counts by itself.
func TestBelowByCompartments(t *testing.T) {
	for i := range 64 {
		for j := range 64 {
			a, b := api.Label{Level: 3, Comp: 1 << i}, api.Label{Level: 3, Comp: 1 << j}
			if got := label.Below(a, b); got != (i == j) {
				t.Errorf("compartment %d, below compartment %d: %t", i, j, got)
			}
			a, b = api.Label{Level: 3, Comp: math.MaxUint64 &^ a.Comp}, api.Label{Level: 3, Comp: math.MaxUint64 &^ b.Comp}
			if got := label.Below(a, b); got != (i == j) {
				t.Errorf("all but compartment %d, below all but compartment %d: %t", i, j, got)
			}
		}
	}
}

// P5.1: each Level counts, whether the compartments are the same or fewer.
func TestBelowByLevels(t *testing.T) {
	for _, i := range levels {
		for _, j := range levels {
			for _, c := range comps {
				same := label.Below(api.Label{Level: i, Comp: c}, api.Label{Level: j, Comp: c})
				fewer := label.Below(api.Label{Level: i}, api.Label{Level: j, Comp: c})
				if same != (i <= j) || fewer != (i <= j) {
					t.Errorf("Level %d below %d, compartments %x: %t, %t", i, j, c, same, fewer)
				}
			}
		}
	}
}

// P5.2: Join and Meet, compartment by compartment; of labels that are not valid, too.
func TestJoinAndMeet(t *testing.T) {
	for _, a := range allLabels() {
		for _, b := range allLabels() {
			join, meet := api.Label{Level: a.Level}, api.Label{Level: b.Level}
			if a.Level < b.Level {
				join.Level, meet.Level = b.Level, a.Level
			}
			for i := range 64 {
				if has(a.Comp, i) || has(b.Comp, i) {
					join.Comp += 1 << i
				}
				if has(a.Comp, i) && has(b.Comp, i) {
					meet.Comp += 1 << i
				}
			}
			if got := label.Join(a, b); got != join {
				t.Fatalf("Join(%v, %v) = %v, not %v", a, b, got, join)
			}
			if got := label.Meet(a, b); got != meet {
				t.Fatalf("Meet(%v, %v) = %v, not %v", a, b, got, meet)
			}
		}
	}
}

// P5.2: equal labels, and those at the ends.
func TestJoinAndMeetAtTheEnds(t *testing.T) {
	for _, a := range validLabels() {
		if label.Join(a, a) != a || label.Meet(a, a) != a {
			t.Errorf("%v with itself: %v, %v", a, label.Join(a, a), label.Meet(a, a))
		}
		if label.Join(a, public) != a || label.Meet(a, public) != public {
			t.Errorf("%v with Public: %v, %v", a, label.Join(a, public), label.Meet(a, public))
		}
		if label.Join(a, top) != top || label.Meet(a, top) != a {
			t.Errorf("%v with the top: %v, %v", a, label.Join(a, top), label.Meet(a, top))
		}
	}
}

// P5.3: Order, of labels that differ in Level, in Comp, in both, in nothing.
func TestOrder(t *testing.T) {
	for _, a := range allLabels() {
		for _, b := range allLabels() {
			want := 0
			if isBefore(a, b) {
				want = -1
			} else if isBefore(b, a) {
				want = 1
			}
			if got := label.Order(a, b); got != want {
				t.Fatalf("Order(%v, %v) = %d", a, b, got)
			}
		}
	}
}

// P5.3: one difference at a time.
func TestOrderOfNeighbours(t *testing.T) {
	for _, p := range [][2]api.Label{
		{{Level: 0}, {Level: 1}},
		{{Level: 14, Comp: 5}, {Level: 15, Comp: 5}},
		{{Level: 2, Comp: math.MaxUint64}, {Level: 3}},
		{{Level: 3, Comp: 4}, {Level: 3, Comp: 5}},
		{{Level: 3, Comp: 1<<63 - 1}, {Level: 3, Comp: 1 << 63}},
		{{Level: 3}, {Level: 3, Comp: 1 << 63}},
		{{Level: 3, Comp: 1}, {Level: 3, Comp: math.MaxUint64}},
		{{Level: 3, Comp: 1<<32 - 1}, {Level: 3, Comp: 1 << 32}},
		{{Level: -1, Comp: 9}, {Level: 0, Comp: 1}},
		{{Level: math.MinInt}, {Level: math.MaxInt}},
	} {
		if label.Order(p[0], p[1]) != -1 || label.Order(p[1], p[0]) != 1 {
			t.Errorf("Order of %v: %d, and turned %d", p, label.Order(p[0], p[1]), label.Order(p[1], p[0]))
		}
		if label.Order(p[0], p[0]) != 0 || label.Order(p[1], p[1]) != 0 {
			t.Errorf("Order of one of %v and itself is not 0", p)
		}
	}
}

// P5.3: Sorted of none.
func TestSortedOfNone(t *testing.T) {
	some := []api.Label{{Level: 3}}
	for _, l := range [][]api.Label{nil, {}, some[:0]} {
		if got := label.Sorted(l); len(got) != 0 {
			t.Errorf("Sorted of none is %v", got)
		}
	}
}

// P5.3: Sorted of one label, once and several times.
func TestSortedOfOne(t *testing.T) {
	for _, a := range allLabels() {
		for n := 1; n <= 4; n++ {
			if got := label.Sorted(slices.Repeat([]api.Label{a}, n)); !slices.Equal(got, []api.Label{a}) {
				t.Fatalf("Sorted of %v, %d times, is %v", a, n, got)
			}
		}
	}
}

// shuffled returns l in another order.
func shuffled(l []api.Label, seed uint32) []api.Label {
	s := slices.Clone(l)
	x := seed
	for i := range s {
		x = x*1664525 + 1013904223
		j := int(x>>8) % (i + 1)
		s[i], s[j] = s[j], s[i]
	}
	return s
}

// P5.3: Sorted of several labels, with each of them once to three times.
func TestSorted(t *testing.T) {
	all := allLabels()
	for seed := range uint32(100) {
		var l, want []api.Label
		for i, a := range all {
			if times := (uint32(i)*seed + seed) % 4; times > 0 {
				l = append(l, slices.Repeat([]api.Label{a}, int(times))...)
				want = append(want, a)
			}
		}
		if got := label.Sorted(shuffled(l, seed)); !slices.Equal(got, want) {
			t.Fatalf("seed %d: Sorted of %d labels returns %d, not %d, or others", seed, len(l), len(got), len(want))
		}
		if got := label.Sorted(want); !slices.Equal(got, want) {
			t.Fatalf("seed %d: what is sorted already is changed", seed)
		}
	}
}

// P5.3: all orders of a few labels, some of which are equal, or in Level alone, or in Comp alone.
func TestSortedOfFew(t *testing.T) {
	few := []api.Label{{Level: 1}, {Level: 1, Comp: 1}, {Level: 1, Comp: 1 << 63}, {Level: 2}, {Level: 2, Comp: 1}}
	for n := range 5 * 5 * 5 * 5 {
		l := []api.Label{few[n%5], few[n/5%5], few[n/25%5], few[n/125]}
		var want []api.Label
		for _, a := range few {
			if slices.Contains(l, a) {
				want = append(want, a)
			}
		}
		if got := label.Sorted(l); !slices.Equal(got, want) {
			t.Errorf("Sorted(%v) = %v", l, got)
		}
	}
}

// P5.5: Below is reflexive, transitive and antisymmetric.
func TestBelowIsAnOrder(t *testing.T) {
	few := fewLabels()
	for _, a := range few {
		if !label.Below(a, a) {
			t.Errorf("%v is not below itself", a)
		}
		for _, b := range few {
			if label.Below(a, b) && label.Below(b, a) && a != b {
				t.Errorf("%v and %v are below each other", a, b)
			}
			for _, c := range few {
				if label.Below(a, b) && label.Below(b, c) && !label.Below(a, c) {
					t.Errorf("%v is below %v, and that below %v, but not the first", a, b, c)
				}
			}
		}
	}
}

// P5.5: Join is the least label above both, Meet the greatest below both.
func TestJoinIsLeastAndMeetGreatest(t *testing.T) {
	few := fewLabels()
	for _, a := range few {
		for _, b := range few {
			join, meet := label.Join(a, b), label.Meet(a, b)
			if !label.Below(a, join) || !label.Below(b, join) || !label.Below(meet, a) || !label.Below(meet, b) {
				t.Errorf("%v and %v: Join is %v, Meet is %v", a, b, join, meet)
			}
			for _, c := range few {
				if label.Below(a, c) && label.Below(b, c) && !label.Below(join, c) {
					t.Errorf("%v and %v are below %v, which is not above their Join", a, b, c)
				}
				if label.Below(c, a) && label.Below(c, b) && !label.Below(c, meet) {
					t.Errorf("%v and %v are above %v, which is not below their Meet", a, b, c)
				}
			}
		}
	}
}

// P5.5: the absorption laws, and whatever the order of two or three.
func TestLaws(t *testing.T) {
	few := fewLabels()
	for _, a := range few {
		for _, b := range few {
			if label.Join(a, label.Meet(a, b)) != a || label.Meet(a, label.Join(a, b)) != a {
				t.Errorf("%v does not absorb %v", a, b)
			}
			if label.Join(a, b) != label.Join(b, a) || label.Meet(a, b) != label.Meet(b, a) {
				t.Errorf("%v and %v turned are others", a, b)
			}
			if below := label.Below(a, b); below != (label.Join(a, b) == b) || below != (label.Meet(a, b) == a) {
				t.Errorf("%v below %v: %t, but not by Join and Meet", a, b, below)
			}
			for _, c := range few {
				join := label.Join(label.Join(a, b), c) == label.Join(a, label.Join(b, c))
				meet := label.Meet(label.Meet(a, b), c) == label.Meet(a, label.Meet(b, c))
				if !join || !meet {
					t.Errorf("%v, %v, %v are others when taken together otherwise", a, b, c)
				}
			}
		}
	}
}

// P5.5: the ends of the valid labels; those that are not valid are beyond one of them.
func TestEnds(t *testing.T) {
	for _, a := range allLabels() {
		between := label.Below(public, a) && label.Below(a, label.Top())
		if between != isValid(a) {
			t.Errorf("%v is between Public and the top: %t", a, between)
		}
	}
}

// P5.6: a label that is below another one is before it.
func TestBelowIsBefore(t *testing.T) {
	for _, a := range allLabels() {
		for _, b := range allLabels() {
			if a != b && label.Below(a, b) && label.Order(a, b) != -1 {
				t.Fatalf("%v is below %v, but Order is %d", a, b, label.Order(a, b))
			}
		}
	}
}

// P5.6: the order is total.
func TestOrderIsTotal(t *testing.T) {
	few := fewLabels()
	for _, a := range few {
		for _, b := range few {
			order := label.Order(a, b)
			if order != -label.Order(b, a) || (order == 0) != (a == b) || order < -1 || order > 1 {
				t.Errorf("Order(%v, %v) = %d, and turned %d", a, b, order, label.Order(b, a))
			}
			for _, c := range few {
				if order <= 0 && label.Order(b, c) <= 0 && label.Order(a, c) > 0 {
					t.Errorf("%v, %v, %v go round", a, b, c)
				}
			}
		}
	}
}

// P5.8: the labels that are passed to Sorted are not changed, nor are those behind them.
func TestArgumentsAreLeftAlone(t *testing.T) {
	for seed := range uint32(20) {
		whole := shuffled(slices.Repeat(fewLabels(), 2), seed)
		kept := slices.Clone(whole)
		for n := range whole {
			label.Sorted(whole[:n])
		}
		if !slices.Equal(whole, kept) {
			t.Errorf("seed %d: an argument is changed", seed)
		}
	}
}

// P5.8: what Sorted returns and what it is passed are apart.
func TestResultsAreNew(t *testing.T) {
	for _, l := range [][]api.Label{
		{{Level: 3, Comp: 4}},
		{{Level: 1}, {Level: 2}, {Level: 3}},
		{{Level: 3}, {Level: 1}, {Level: 2}},
		{{Level: 3}, {Level: 3}, {Level: 1}, {Level: 1}},
	} {
		given := slices.Clone(l)
		got, again := label.Sorted(given), label.Sorted(given)
		want := slices.Clone(got)
		for i := range got {
			got[i] = api.Label{Level: 9, Comp: uint64(i)}
		}
		_ = append(got, api.Label{Level: 8})
		if !slices.Equal(given, l) || !slices.Equal(again, want) {
			t.Errorf("Sorted of %v is shared", l)
		}
		if third := label.Sorted(given); !slices.Equal(third, want) {
			t.Errorf("Sorted of %v is %v after an earlier result was changed", l, third)
		}
		clear(given)
		if !slices.Equal(again, want) {
			t.Errorf("Sorted of %v keeps what it is passed", l)
		}
	}
}

// P5.8: a label that is returned is changed; the next one is not.
func TestReturnedLabelsAreApart(t *testing.T) {
	a, b := api.Label{Level: 1, Comp: 3}, api.Label{Level: 2, Comp: 5}
	for _, do := range []func() api.Label{
		label.Top,
		func() api.Label { return label.Join(a, b) },
		func() api.Label { return label.Meet(a, b) },
		func() api.Label { l, _ := label.Parse("2:5"); return l },
	} {
		first := do()
		kept := first
		first.Level, first.Comp = -1, 77
		if do() != kept || a != (api.Label{Level: 1, Comp: 3}) || b != (api.Label{Level: 2, Comp: 5}) {
			t.Errorf("%v is another one after it was changed", kept)
		}
	}
}

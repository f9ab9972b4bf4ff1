package tests

import (
	"slices"
	"testing"

	"loop.example/partsandwholes/impl"
)

// sumTruth is what chapter 4 answers of a set of things of a world; least is -1 where there is none.
type sumTruth struct {
	sums, bounds, least int
}

// sumsTold asks of LeastBound that it says true just if there is a bound, beside which it is no -1.
func sumsTold(t *testing.T, w []int, set int) sumTruth {
	t.Helper()
	least, ok := impl.LeastBound(w, set)
	if ok != (least >= 0) || least < -1 {
		t.Errorf("LeastBound(%v, %d) is %d and %v", w, set, least, ok)
	}
	return sumTruth{impl.SumsOf(w, set), impl.BoundsOf(w, set), least}
}

func sumsAsDefined(r relation, set int) sumTruth {
	list := members(set)
	return sumTruth{setOf(r.sums(list)), setOf(r.bounds(list)), r.least(list)}
}

type sumRow struct {
	w    []int
	set  int
	want sumTruth
	name string
}

// sixOfOne has six wholes of its first thing, none of which is a part of another one.
var sixOfOne = []int{1, 3, 5, 9, 17, 33, 65}

func sumRows() []sumRow {
	three := worldOfSets([]int{1, 2, 3, 4, 5, 6, 7})
	return []sumRow{
		{[]int{1}, 1, sumTruth{1, 1, 0}, "the one thing"},
		{[]int{1, 2}, 1, sumTruth{1, 1, 0}, "an atom beside another one"},
		{[]int{1, 2}, 2, sumTruth{2, 2, 1}, "the other one"},
		{[]int{1, 2}, 3, sumTruth{0, 0, -1}, "two atoms alone"},
		{[]int{1, 3}, 1, sumTruth{3, 3, 0}, "the one proper part"},
		{[]int{1, 3}, 2, sumTruth{3, 2, 1}, "its whole: the part is a sum, and no bound"},
		{[]int{1, 3}, 3, sumTruth{3, 2, 1}, "both"},
		{[]int{3, 2}, 2, sumTruth{3, 3, 1}, "the part behind its whole"},
		{[]int{3, 2}, 3, sumTruth{3, 1, 0}, "both, the whole first"},
		{[]int{1, 2, 7}, 1, sumTruth{1, 5, 0}, "an atom of a whole"},
		{[]int{1, 2, 7}, 3, sumTruth{4, 4, 2}, "both atoms of a whole"},
		{[]int{1, 2, 7}, 4, sumTruth{4, 4, 2}, "the whole"},
		{[]int{1, 2, 7}, 5, sumTruth{4, 4, 2}, "the whole and a part"},
		{[]int{1, 2, 7}, 7, sumTruth{4, 4, 2}, "the whole and its parts"},
		{[]int{7, 2, 4}, 6, sumTruth{1, 1, 0}, "both atoms, the whole first"},
		{[]int{1, 2, 7, 11}, 1, sumTruth{1, 13, 0}, "an atom of two wholes"},
		{[]int{1, 2, 7, 11}, 3, sumTruth{12, 12, -1}, "two wholes of the same two atoms: two sums, no least bound"},
		{[]int{1, 2, 7, 11}, 4, sumTruth{12, 4, 2}, "one of them: the other one is a sum, too"},
		{[]int{1, 2, 7, 11}, 12, sumTruth{12, 0, -1}, "both of them: two sums, and no bound"},
		{[]int{1, 2, 7, 11}, 15, sumTruth{12, 0, -1}, "all: two sums, and no bound"},
		{[]int{1, 2, 7, 11, 31}, 3, sumTruth{28, 28, -1}, "two wholes of the same two atoms in a whole: three bounds, none the least"},
		{[]int{1, 2, 7, 11, 31}, 12, sumTruth{28, 16, 4}, "both wholes in a whole"},
		{twoAtoms, 3, sumTruth{12, 12, 2}, "a whole with a whole of the same atoms: two sums, the first is the least bound"},
		{twoAtoms, 8, sumTruth{12, 8, 3}, "the whole of the whole"},
		{twoAtoms, 15, sumTruth{12, 8, 3}, "all"},
		{backwards(twoAtoms), 12, sumTruth{3, 3, 1}, "the same backwards: the least bound is the last one"},
		{[]int{1, 2, 4, 15}, 3, sumTruth{0, 8, 3}, "two of three atoms: a least bound that is no sum"},
		{[]int{1, 2, 4, 15}, 7, sumTruth{8, 8, 3}, "all three atoms"},
		{[]int{1, 2, 4, 11}, 3, sumTruth{8, 8, 3}, "two atoms and their whole beside an atom"},
		{[]int{1, 2, 4, 11}, 12, sumTruth{0, 0, -1}, "the whole and the atom"},
		{[]int{1, 2, 4, 11, 23}, 3, sumTruth{8, 24, -1}, "two of three atoms: a sum, and two bounds, none the least"},
		{[]int{1, 2, 4, 11, 23}, 5, sumTruth{0, 16, 4}, "two others: a least bound that is no sum"},
		{[]int{1, 2, 4, 11, 23}, 7, sumTruth{16, 16, 4}, "all three atoms"},
		{[]int{1, 2, 4, 11, 23}, 8, sumTruth{8, 8, 3}, "a whole of two atoms"},
		{[]int{1, 2, 4, 11, 23}, 24, sumTruth{16, 0, -1}, "two wholes: a sum that is no bound"},
		{sixOfOne, 1, sumTruth{127, 127, 0}, "a thing that is part of all"},
		{sixOfOne, 6, sumTruth{127, 0, -1}, "two of its wholes: all are sums, and there is no bound"},
		{sixOfOne, 127, sumTruth{127, 0, -1}, "all seven"},
		{sixOfOne, 64, sumTruth{127, 64, 6}, "the last one"},
		{flat(7), 64, sumTruth{64, 64, 6}, "the last of seven atoms"},
		{flat(7), 127, sumTruth{0, 0, -1}, "seven atoms alone"},
		{flat(7), 65, sumTruth{0, 0, -1}, "the first and the last of seven atoms"},
		{line(7), 1, sumTruth{127, 127, 0}, "the first of seven in a line"},
		{line(7), 10, sumTruth{127, 120, 3}, "two of seven in a line"},
		{line(7), 127, sumTruth{127, 64, 6}, "all seven in a line"},
		{backwards(line(7)), 12, sumTruth{127, 7, 2}, "two of seven in a line backwards"},
		{[]int{1, 2, 4, 8, 16, 32, 127}, 33, sumTruth{0, 64, 6}, "two of six atoms"},
		{[]int{1, 2, 4, 8, 16, 32, 127}, 63, sumTruth{64, 64, 6}, "six atoms of a whole"},
		{[]int{1, 2, 4, 8, 16, 32, 127}, 127, sumTruth{64, 64, 6}, "six atoms and their whole"},
		{three, 9, sumTruth{16, 80, 4}, "two of three points"},
		{three, 20, sumTruth{64, 64, 6}, "two sets of two points"},
		{three, 11, sumTruth{64, 64, 6}, "three points"},
		{three, 127, sumTruth{64, 64, 6}, "all sets of three points"},
	}
}

type summedRow struct {
	w    []int
	want bool
	name string
}

func summedRows() []summedRow {
	return []summedRow{
		{[]int{1}, true, "one thing"},
		{[]int{1, 2}, false, "two atoms alone, of which but all together have no sum"},
		{flat(7), false, "seven atoms alone"},
		{[]int{1, 3}, true, "one proper part"},
		{[]int{3, 2}, true, "one proper part behind its whole"},
		{[]int{1, 2, 5}, false, "one proper part beside an atom"},
		{[]int{1, 2, 7}, true, "two atoms and their whole"},
		{[]int{7, 2, 4}, true, "the whole first"},
		{[]int{1, 2, 7, 11}, true, "two wholes of the same two atoms"},
		{twoAtoms, true, "a whole with a whole of the same atoms"},
		{[]int{1, 2, 4, 15}, false, "three atoms and their whole"},
		{[]int{1, 2, 4, 11}, false, "two atoms and their whole beside an atom"},
		{[]int{1, 2, 4, 11, 23}, false, "two of three atoms that are no part of the whole of three"},
		{sixOfOne, true, "a thing that is part of all"},
		{line(7), true, "seven in a line"},
		{backwards(line(7)), true, "seven in a line backwards"},
		{[]int{1, 2, 4, 8, 16, 32, 127}, false, "six atoms and their whole"},
		{worldOfSets([]int{1, 2, 3, 4, 5, 6, 7}), true, "all sets of three points"},
		{worldOfSets([]int{7, 6, 5, 4, 3, 2, 1}), true, "all sets of three points backwards"},
		{worldOfSets([]int{1, 2, 3, 4, 5, 7}), false, "all sets of three points but one of two"},
		{worldOfSets([]int{1, 2, 3, 4, 5, 6}), false, "all sets of three points but the whole"},
		{worldOfSets([]int{1, 2, 3, 4, 5, 6, 8}), false, "sets of three points beside a fourth one"},
	}
}

// sumWorlds has all worlds of up to five things, and worlds of seven.
func sumWorlds() [][]int {
	all := append(worlds(), worldsOfFive()...)
	for _, r := range sumRows() {
		all = append(all, r.w)
	}
	for _, r := range summedRows() {
		all = append(all, r.w)
	}
	return all
}

// ofEachSet calls do with each set of one thing or more of each world.
func ofEachSet(all [][]int, do func(w []int, set int)) {
	for _, w := range all {
		for set := 1; set < power(len(w)); set++ {
			do(w, set)
		}
	}
}

func TestSumsOfRows(t *testing.T) {
	for _, r := range sumRows() {
		told, _ := relationOf(r.w)
		if !isWorld(r.w) || sumsAsDefined(told, r.set) != r.want {
			t.Errorf("%s: the row of %v and %d is wrong: %v", r.name, r.w, r.set, sumsAsDefined(told, r.set))
		}
		if got := sumsTold(t, r.w, r.set); got != r.want {
			t.Errorf("%s: %v and %d have %v, not %v", r.name, r.w, r.set, got, r.want)
		}
	}
}

func TestSummedOkOfRows(t *testing.T) {
	for _, r := range summedRows() {
		if !isWorld(r.w) {
			t.Errorf("%s: %v is no world", r.name, r.w)
		}
		if got := impl.SummedOk(r.w); got != r.want {
			t.Errorf("%s: SummedOk(%v) is %v", r.name, r.w, got)
		}
	}
}

func TestSumsAsDefined(t *testing.T) {
	for _, w := range sumWorlds() {
		told, _ := relationOf(w)
		summed := true
		ofEachSet([][]int{w}, func(w []int, set int) {
			want := sumsAsDefined(told, set)
			summed = summed && want.sums != 0
			if got := sumsTold(t, w, set); got != want {
				t.Errorf("%v and %d have %v, not %v", w, set, got, want)
			}
		})
		if got := impl.SummedOk(w); got != summed {
			t.Errorf("SummedOk(%v) is %v", w, got)
		}
	}
}

func TestPromise17(t *testing.T) {
	for _, w := range sumWorlds() {
		for a := range w {
			if !inSet(impl.SumsOf(w, power(a)), a) {
				t.Errorf("%v: %d is no sum of itself", w, a)
			}
		}
		strong := impl.StrongOk(w)
		ofEachSet([][]int{w}, func(w []int, set int) {
			sums := members(impl.SumsOf(w, set))
			if strong && len(sums) > 1 {
				t.Errorf("%v is strong, but %d has the sums %v", w, set, sums)
			}
			for _, sum := range sums {
				if impl.MeetingSet(w, sum) != impl.MeetingSet(w, sums[0]) {
					t.Errorf("%v: the sums %d and %d of %d overlap other things", w, sum, sums[0], set)
				}
				for _, a := range members(set) {
					if strong && !impl.PartOk(w, a, sum) {
						t.Errorf("%v is strong, but %d of %d is no part of the sum %d", w, a, set, sum)
					}
				}
			}
		})
	}
}

func TestPromise18(t *testing.T) {
	ofEachSet(sumWorlds(), func(w []int, set int) {
		bounds := impl.BoundsOf(w, set)
		if bounds < 0 || bounds >= power(len(w)) {
			t.Errorf("BoundsOf(%v, %d) is %d", w, set, bounds)
		}
		for b := range w {
			if inSet(bounds, b) && !inside(impl.WholesOf(w, b), bounds) {
				t.Errorf("%v: a whole of the bound %d of %d is none", w, b, set)
			}
			if more := impl.BoundsOf(w, set|power(b)); !inside(more, bounds) {
				t.Errorf("%v: %d and %d together have bounds that %d has not", w, set, b, set)
			}
		}
	})
}

func TestPromise19(t *testing.T) {
	for _, w := range sumWorlds() {
		strong := impl.StrongOk(w)
		ofEachSet([][]int{w}, func(w []int, set int) {
			least, ok := impl.LeastBound(w, set)
			sums := impl.SumsOf(w, set)
			if strong && sums != 0 && (!ok || sums != power(least)) {
				t.Errorf("%v is strong, but %d has the sums %d, and the least bound %d, %v", w, set, sums, least, ok)
			}
			if ok && !inside(impl.BoundsOf(w, set), impl.WholesOf(w, least)) {
				t.Errorf("%v: the least bound %d of %d is no part of each", w, least, set)
			}
		})
		for a, parts := range w { // a whole with any of its parts
			for some := range power(len(w)) {
				if !inSet(some, a) || !inside(some, parts) {
					continue
				}
				if least, ok := impl.LeastBound(w, some); least != a || !ok {
					t.Errorf("LeastBound(%v, %d) is %d and %v, not the whole %d", w, some, least, ok, a)
				}
			}
		}
	}
}

func TestPromise20(t *testing.T) {
	if !impl.SummedOk([]int{1}) {
		t.Error("one thing is not summed")
	}
	for _, w := range sumWorlds() {
		if !impl.SummedOk(w) {
			continue
		}
		all := power(len(w)) - 1
		meets := false
		for a := range w {
			meets = meets || impl.MeetingSet(w, a) == all
		}
		if !meets {
			t.Errorf("%v is summed, but nothing overlaps all", w)
		}
		if impl.StrongOk(w) && !slices.Contains(w, all) {
			t.Errorf("%v is summed and strong, but nothing has all as parts", w)
		}
	}
}

// TestWorldsOfAtomsHaveNoSums asks of worlds without proper parts, of one thing up to MaxThings.
func TestWorldsOfAtomsHaveNoSums(t *testing.T) {
	for n := 1; n <= 7; n++ {
		if got := impl.SummedOk(flat(n)); got != (n == 1) {
			t.Errorf("%d atoms alone are summed: %v", n, got)
		}
		ofEachSet([][]int{flat(n)}, func(w []int, set int) {
			want := sumTruth{0, 0, -1}
			if list := members(set); len(list) == 1 {
				want = sumTruth{set, set, list[0]}
			}
			if got := sumsTold(t, w, set); got != want {
				t.Errorf("%d of %d atoms alone has %v, not %v", set, n, got, want)
			}
		})
	}
}

func noSums(t *testing.T, w []int, set int) {
	t.Helper()
	if got := sumsTold(t, w, set); got != (sumTruth{-1, -1, -1}) {
		t.Errorf("%v and %d have %v", w, set, got)
	}
}

func TestSumsOfNoWorlds(t *testing.T) {
	for _, w := range almostWorlds() {
		for set := range 130 {
			noSums(t, w, set)
		}
		if impl.SummedOk(w) {
			t.Errorf("SummedOk(%v) is true", w)
		}
	}
	for name, w := range noWorlds() {
		for set := range 130 {
			noSums(t, w, set)
		}
		for _, set := range noSets(min(len(w), 8)) {
			noSums(t, w, set)
		}
		if impl.SummedOk(w) {
			t.Errorf("%s: SummedOk(%v) is true", name, w)
		}
	}
}

func TestSumsOfNoSets(t *testing.T) {
	for _, w := range sumWorlds() {
		for _, set := range noSets(len(w)) {
			noSums(t, w, set)
		}
	}
	for _, w := range [][]int{{1}, {1, 2}, {1, 3}, {3, 2}, twoAtoms, line(6), flat(7), line(7), backwards(line(7))} {
		for set := -300; set <= 0; set++ {
			noSums(t, w, set)
		}
		for set := power(len(w)); set < 300; set++ {
			noSums(t, w, set)
		}
	}
}

// TestSumsAreNotKept asks of other worlds in between.
func TestSumsAreNotKept(t *testing.T) {
	for _, r := range sumRows() {
		for _, other := range sumRows() {
			sumsTold(t, other.w, other.set)
			impl.SummedOk(other.w)
			sumsTold(t, nil, 0)
			if got := sumsTold(t, r.w, r.set); got != r.want {
				t.Errorf("%s: %v behind %s", r.name, got, other.name)
			}
		}
	}
}

func TestSumsWriteNothing(t *testing.T) {
	for _, w := range append(worlds(), []int{3, 3}, flat(8)) {
		roomy := append(slices.Clone(w), 91, 92, 93)
		before := slices.Clone(roomy)
		given := roomy[:len(w)]
		if impl.SummedOk(given) != impl.SummedOk(w) {
			t.Errorf("%v: what follows it is read", w)
		}
		for set := range power(len(w)) {
			if sumsTold(t, given, set) != sumsTold(t, w, set) {
				t.Errorf("%v and %d: what follows it is read", w, set)
			}
		}
		if !slices.Equal(roomy, before) {
			t.Fatalf("%v is written to: %v", before, roomy)
		}
	}
}

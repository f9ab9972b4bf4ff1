package tests

import (
	"slices"
	"testing"

	"loop.example/partsandwholes/impl"
)

// restTruth is what chapter 5 answers of two things of a world, against of the first one alone; -1 where there is none.
type restTruth struct {
	common, left, against, whole int
}

// restsTold asks of each function that it says true just if there is a thing, beside which it is no -1.
func restsTold(t *testing.T, w []int, a, b int) restTruth {
	t.Helper()
	told := func(name string, c int, ok bool) int {
		if ok != (c >= 0) || c < -1 {
			t.Errorf("%s of %v, %d and %d is %d and %v", name, w, a, b, c, ok)
		}
		return c
	}
	common, isCommon := impl.CommonOf(w, a, b)
	left, isLeft := impl.LeftOf(w, a, b)
	against, isAgainst := impl.AgainstOf(w, a)
	whole, isWhole := impl.WholeOf(w)
	return restTruth{
		told("CommonOf", common, isCommon),
		told("LeftOf", left, isLeft),
		told("AgainstOf", against, isAgainst),
		told("WholeOf", whole, isWhole),
	}
}

func restsAsDefined(r relation, a, b int) restTruth {
	var all []int
	for c := range r {
		all = append(all, c)
	}
	return restTruth{
		r.greatest(r.commonParts(a, b)),
		r.greatest(r.rests(a, b)),
		r.greatest(r.apartFrom(a)),
		r.greatest(all),
	}
}

type restRow struct {
	w    []int
	a, b int
	want restTruth
	name string
}

func restRows() []restRow {
	return slices.Concat(smallRestRows(), largeRestRows())
}

func smallRestRows() []restRow {
	return []restRow{
		{[]int{1}, 0, 0, restTruth{0, -1, -1, 0}, "the one thing and itself"},
		{[]int{1, 2}, 0, 0, restTruth{0, -1, 1, -1}, "an atom and itself, beside another one"},
		{[]int{1, 2}, 0, 1, restTruth{-1, 0, 1, -1}, "two atoms alone, which are apart"},
		{[]int{1, 2}, 1, 0, restTruth{-1, 1, 0, -1}, "the same the other way round"},
		{[]int{1, 2, 4}, 0, 1, restTruth{-1, 0, -1, -1}, "two of three atoms alone: both others are against the first one, and none has the other one"},
		{[]int{1, 3}, 0, 1, restTruth{0, -1, -1, 1}, "a proper part and its whole"},
		{[]int{1, 3}, 1, 0, restTruth{0, -1, -1, 1}, "a whole and its one proper part: no part is left"},
		{[]int{3, 2}, 0, 1, restTruth{1, -1, -1, 0}, "the same, the whole first"},
		{[]int{1, 3}, 1, 1, restTruth{1, -1, -1, 1}, "a whole and itself"},
		{[]int{1, 3, 4}, 1, 2, restTruth{-1, 1, 2, -1}, "a whole and an atom that are apart: all of the whole is left"},
		{[]int{1, 3, 4}, 2, 0, restTruth{-1, 2, 1, -1}, "an atom, against which a whole and its part are: the whole"},
		{[]int{5, 2, 4}, 1, 0, restTruth{-1, 1, 0, -1}, "the same with the whole ahead of its part"},
		{[]int{1, 3, 5}, 1, 2, restTruth{0, -1, -1, -1}, "two wholes of one atom: no part of the first one is apart"},
		{[]int{1, 2, 7}, 0, 1, restTruth{-1, 0, 1, 2}, "two atoms of a whole"},
		{[]int{1, 2, 7}, 0, 2, restTruth{0, -1, 1, 2}, "an atom and its whole"},
		{[]int{1, 2, 7}, 2, 0, restTruth{0, 1, -1, 2}, "a whole of two atoms and one of them"},
		{[]int{1, 2, 7}, 2, 2, restTruth{2, -1, -1, 2}, "the whole and itself, against which nothing is"},
		{[]int{7, 2, 4}, 0, 1, restTruth{1, 2, -1, 0}, "the whole first"},
		{twoAtoms, 2, 3, restTruth{2, -1, -1, 3}, "a whole and a whole of the same atoms"},
		{twoAtoms, 3, 2, restTruth{2, -1, -1, 3}, "the same the other way round: another thing, and yet nothing is left"},
		{backwards(twoAtoms), 1, 0, restTruth{1, -1, -1, 0}, "the same backwards"},
		{[]int{1, 2, 7, 11}, 2, 3, restTruth{-1, -1, -1, -1}, "two wholes of the same two atoms: both atoms are common, and none has the other one"},
		{[]int{1, 2, 7, 11}, 2, 0, restTruth{0, 1, -1, -1}, "one of them and an atom"},
		{[]int{1, 2, 7, 11, 31}, 2, 3, restTruth{-1, -1, -1, 4}, "two wholes of the same two atoms in a whole"},
		{[]int{1, 2, 7, 11, 31}, 4, 3, restTruth{3, -1, -1, 4}, "the whole and one of its parts: what is common is no atom"},
		{[]int{1, 2, 4, 15}, 3, 0, restTruth{0, -1, -1, 3}, "three atoms and their whole: two atoms are left, and none has the other one"},
		{[]int{1, 2, 4, 15}, 0, 3, restTruth{0, -1, -1, 3}, "the same the other way round: two atoms are against the first one"},
		{[]int{1, 2, 4, 11}, 2, 3, restTruth{-1, 2, 3, -1}, "an atom, against which two atoms and their whole are: the whole"},
		{[]int{1, 2, 4, 11}, 0, 3, restTruth{0, -1, -1, -1}, "an atom of these, against which are two atoms"},
		{[]int{1, 2, 4, 11, 21}, 3, 4, restTruth{0, 1, 2, -1}, "two wholes with one atom in common"},
		{[]int{1, 2, 4, 11, 21}, 4, 3, restTruth{0, 2, 1, -1}, "the same the other way round"},
		{[]int{1, 2, 4, 11, 23}, 3, 4, restTruth{-1, -1, 2, -1}, "two of three atoms that are no part of the whole of three"},
		{[]int{1, 2, 4, 11, 23}, 4, 3, restTruth{-1, 2, -1, -1}, "the whole of three and that of two"},
	}
}

// sevenMixed has all sets of three points in a mixed order: a, b, ab, c, ac, bc and abc.
var sevenMixed = []int{1, 2, 7, 8, 25, 42, 127}

func largeRestRows() []restRow {
	back := worldOfSets([]int{7, 6, 5, 4, 3, 2, 1})
	return []restRow{
		{sevenMixed, 2, 4, restTruth{0, 1, 3, 6}, "ab and ac"},
		{sevenMixed, 4, 2, restTruth{0, 3, 1, 6}, "ac and ab"},
		{sevenMixed, 0, 1, restTruth{-1, 0, 5, 6}, "a and b"},
		{sevenMixed, 5, 0, restTruth{-1, 5, 0, 6}, "bc and a"},
		{sevenMixed, 6, 0, restTruth{0, 5, -1, 6}, "abc and a"},
		{sevenMixed, 6, 5, restTruth{5, 0, -1, 6}, "abc and bc"},
		{sevenMixed, 3, 6, restTruth{3, -1, 2, 6}, "c and abc"},
		{sevenMixed, 6, 6, restTruth{6, -1, -1, 6}, "abc and itself"},
		{back, 0, 6, restTruth{6, 1, -1, 0}, "abc and a, the whole first"},
		{back, 1, 2, restTruth{3, 5, 6, 0}, "bc and ac, the whole first"},
		{sixOfOne, 1, 2, restTruth{0, -1, -1, -1}, "two of the wholes of a thing that is part of all"},
		{sixOfOne, 6, 0, restTruth{0, -1, -1, -1}, "the last one and that thing"},
		{flat(7), 6, 0, restTruth{-1, 6, -1, -1}, "the last of seven atoms, and the first one"},
		{flat(7), 6, 6, restTruth{6, -1, -1, -1}, "the last of seven atoms, and itself"},
		{line(7), 6, 0, restTruth{0, -1, -1, 6}, "the last of seven in a line, and the first one"},
		{line(7), 3, 5, restTruth{3, -1, -1, 6}, "two of seven in a line"},
		{backwards(line(7)), 1, 4, restTruth{4, -1, -1, 0}, "two of seven in a line backwards"},
		{[]int{1, 2, 4, 8, 16, 32, 127}, 6, 5, restTruth{5, -1, -1, 6}, "six atoms of a whole: five are left, and none has the others"},
		{[]int{1, 2, 4, 8, 16, 63, 64}, 6, 5, restTruth{-1, 6, 5, -1}, "an atom, against which all others are: five atoms and their whole"},
		{[]int{1, 2, 4, 8, 16, 63, 95}, 5, 6, restTruth{-1, -1, -1, -1}, "two wholes of the same five atoms"},
	}
}

// restWorlds has all worlds of up to five things, worlds of seven, and all that are strong and have all sums: of one thing, of three, and of seven.
func restWorlds() [][]int {
	all := slices.Concat(worlds(), worldsOfFive(), threePoints())
	for _, r := range restRows() {
		all = append(all, r.w)
	}
	return all
}

// ofEachPair calls do with each two things of a world, and each thing with itself.
func ofEachPair(w []int, do func(a, b int)) {
	for a := range w {
		for b := range w {
			do(a, b)
		}
	}
}

func strongWithSums(w []int) bool {
	return impl.StrongOk(w) && impl.SummedOk(w)
}

func TestStrongWorldsWithSumsAreAll(t *testing.T) {
	got := map[int]int{} // by how many things they have
	for _, w := range slices.Concat(smallWorlds(), worldsOfFive(), threePoints()) {
		if strongWithSums(w) {
			got[len(w)]++
		}
	}
	if len(got) != 3 || got[1] != 1 || got[3] != 3 || got[7] != 840 {
		t.Fatal(got)
	}
}

func TestRestsOfRows(t *testing.T) {
	for _, r := range restRows() {
		told, _ := relationOf(r.w)
		if !isWorld(r.w) || restsAsDefined(told, r.a, r.b) != r.want {
			t.Errorf("%s: the row of %v, %d and %d is wrong: %v", r.name, r.w, r.a, r.b, restsAsDefined(told, r.a, r.b))
		}
		if got := restsTold(t, r.w, r.a, r.b); got != r.want {
			t.Errorf("%s: %v, %d and %d have %v, not %v", r.name, r.w, r.a, r.b, got, r.want)
		}
	}
}

func TestRestsAsDefined(t *testing.T) {
	for _, w := range restWorlds() {
		told, _ := relationOf(w)
		ofEachPair(w, func(a, b int) {
			if got, want := restsTold(t, w, a, b), restsAsDefined(told, a, b); got != want {
				t.Errorf("%v, %d and %d have %v, not %v", w, a, b, got, want)
			}
		})
	}
}

func TestPromise21(t *testing.T) {
	for _, w := range restWorlds() {
		all := strongWithSums(w)
		ofEachPair(w, func(a, b int) {
			got, ok := impl.CommonOf(w, a, b)
			if ok && (!impl.PartOk(w, got, a) || !impl.PartOk(w, got, b)) {
				t.Errorf("%v: %d is common to %d and %d, but no part of both", w, got, a, b)
			}
			for c := range w {
				if ok && impl.PartOk(w, c, a) && impl.PartOk(w, c, b) && !impl.PartOk(w, c, got) {
					t.Errorf("%v: %d is common to %d and %d, but %d is no part of it", w, got, a, b, c)
				}
			}
			if impl.PartOk(w, a, b) && (!ok || got != a) {
				t.Errorf("%v: %d and %v is common to the part %d and its whole %d", w, got, ok, a, b)
			}
			if other, is := impl.CommonOf(w, b, a); other != got || is != ok {
				t.Errorf("%v: common to %d and %d is %d, and the other way round %d", w, a, b, got, other)
			}
			overlap := impl.OverlapOk(w, a, b)
			if ok && !overlap {
				t.Errorf("%v: %d and %d are apart, but %d is common", w, a, b, got)
			}
			if all && overlap && !ok {
				t.Errorf("%v is strong and has all sums, but nothing is common to %d and %d", w, a, b)
			}
		})
	}
}

func TestPromise22(t *testing.T) {
	for _, w := range restWorlds() {
		all := strongWithSums(w)
		ofEachPair(w, func(a, b int) {
			got, ok := impl.LeftOf(w, a, b)
			if ok && (!impl.PartOk(w, got, a) || impl.OverlapOk(w, got, b)) {
				t.Errorf("%v: %d is left of %d without %d, but no part of the one, or not apart from the other one", w, got, a, b)
			}
			for c := range w {
				if ok && impl.PartOk(w, c, a) && !impl.OverlapOk(w, c, b) && !impl.PartOk(w, c, got) {
					t.Errorf("%v: %d is left of %d without %d, but %d is no part of it", w, got, a, b, c)
				}
			}
			part := impl.PartOk(w, a, b)
			if part && ok {
				t.Errorf("%v: %d is left of the part %d without its whole %d", w, got, a, b)
			}
			if !impl.OverlapOk(w, a, b) && (!ok || got != a) {
				t.Errorf("%v: %d and %v is left of %d without %d, from which it is apart", w, got, ok, a, b)
			}
			if all && !part && !ok {
				t.Errorf("%v is strong and has all sums, but nothing is left of %d without %d", w, a, b)
			}
		})
	}
}

func TestPromise23(t *testing.T) {
	for _, w := range restWorlds() {
		all := strongWithSums(w)
		whole, _ := impl.WholeOf(w)
		for a := range w {
			got, ok := impl.AgainstOf(w, a)
			for c := range w {
				if ok && impl.OverlapOk(w, c, a) == impl.PartOk(w, c, got) {
					t.Errorf("%v: %d is against %d, but %d is apart and no part of it, or a part and not apart", w, got, a, c)
				}
			}
			if a == whole && ok {
				t.Errorf("%v: %d is against the whole %d", w, got, a)
			}
			if !all || a == whole {
				continue
			}
			if again, is := impl.AgainstOf(w, got); !ok || !is || again != a {
				t.Errorf("%v is strong and has all sums, but %d and %v is against %d, and %d and %v against that", w, got, ok, a, again, is)
			}
		}
	}
}

func TestPromise24(t *testing.T) {
	for _, w := range restWorlds() {
		all := strongWithSums(w)
		whole, ok := impl.WholeOf(w)
		if all && !ok {
			t.Errorf("%v is strong and has all sums, but no whole", w)
		}
		if ok != slices.Contains(w, power(len(w))-1) {
			t.Errorf("WholeOf(%v) is %d and %v", w, whole, ok)
		}
		for a := range w {
			if ok && !impl.PartOk(w, a, whole) {
				t.Errorf("%v: %d is no part of the whole %d", w, a, whole)
			}
		}
		ofEachPair(w, func(a, b int) {
			if !all || !impl.OverlapOk(w, a, b) {
				return
			}
			common, _ := impl.CommonOf(w, a, b)
			both := []int{common}
			if left, is := impl.LeftOf(w, a, b); is {
				both = append(both, left)
			}
			if sums := impl.SumsOf(w, setOf(both)); sums != power(a) {
				t.Errorf("%v: what %d and %d have in common, and what is left, %v, have the sums %d", w, a, b, both, sums)
			}
		})
	}
}

// TestRestsOfAtomsAlone asks of worlds without proper parts, of one thing up to MaxThings.
func TestRestsOfAtomsAlone(t *testing.T) {
	for n := 1; n <= 7; n++ {
		ofEachPair(flat(n), func(a, b int) {
			want := restTruth{common: -1, left: a, against: -1, whole: -1}
			if a == b {
				want.common, want.left = a, -1
			}
			if n == 1 {
				want.whole = 0
			}
			if n == 2 {
				want.against = 1 - a
			}
			if got := restsTold(t, flat(n), a, b); got != want {
				t.Errorf("%d and %d of %d atoms alone have %v, not %v", a, b, n, got, want)
			}
		})
	}
}

// TestRestsInLine asks of worlds in which each thing overlaps all, of one thing up to MaxThings.
func TestRestsInLine(t *testing.T) {
	for n := 1; n <= 7; n++ {
		ofEachPair(line(n), func(a, b int) {
			want := restTruth{min(a, b), -1, -1, n - 1}
			if got := restsTold(t, line(n), a, b); got != want {
				t.Errorf("%d and %d of %d in a line have %v, not %v", a, b, n, got, want)
			}
		})
	}
}

// noRests asks of what is no world, or of a first number that is no thing of it, which then stands second, too.
func noRests(t *testing.T, w []int, a, b int) {
	t.Helper()
	got := restsTold(t, w, a, b)
	if got.common != -1 || got.left != -1 || got.against != -1 {
		t.Errorf("%v, %d and %d have %v", w, a, b, got)
	}
	if got := restsTold(t, w, b, a); got.common != -1 || got.left != -1 {
		t.Errorf("%v, %d and %d have %v", w, b, a, got)
	}
}

func TestRestsOfNoWorlds(t *testing.T) {
	for _, w := range almostWorlds() {
		if whole, ok := impl.WholeOf(w); whole != -1 || ok {
			t.Errorf("WholeOf(%v) is %d and %v", w, whole, ok)
		}
		ofEachPair(w, func(a, b int) { noRests(t, w, a, b) })
	}
	for name, w := range noWorlds() {
		if whole, ok := impl.WholeOf(w); whole != -1 || ok {
			t.Errorf("%s: WholeOf(%v) is %d and %v", name, w, whole, ok)
		}
		numbers := append(noThings(len(w)), 0, 1, 2, 3, 4, 5, 6)
		for _, a := range numbers {
			for _, b := range numbers {
				noRests(t, w, a, b)
			}
		}
	}
}

func TestRestsOfNoThings(t *testing.T) {
	for _, w := range [][]int{{1}, {1, 2}, {1, 3}, {3, 2}, {1, 2, 7}, twoAtoms, sevenMixed, line(6), flat(7), line(7), backwards(line(7))} {
		for _, a := range noThings(len(w)) {
			if a >= 0 && a < len(w) {
				continue
			}
			for b := range w {
				noRests(t, w, a, b)
			}
			noRests(t, w, a, a)
			noRests(t, w, a, -1)
			noRests(t, w, a, len(w))
		}
	}
}

// TestRestsAreNotKept asks of other worlds, and of none, in between.
func TestRestsAreNotKept(t *testing.T) {
	for _, r := range restRows() {
		for _, other := range restRows() {
			restsTold(t, other.w, other.a, other.b)
			restsTold(t, nil, 0, 0)
			if got := restsTold(t, r.w, r.a, r.b); got != r.want {
				t.Errorf("%s: %v behind %s", r.name, got, other.name)
			}
		}
	}
}

// TestRestsReadTheWorldOfNow asks of a slice whose world has changed since.
func TestRestsReadTheWorldOfNow(t *testing.T) {
	w := []int{1, 2, 7}
	steps := []struct {
		last int
		want restTruth
	}{
		{7, restTruth{0, 1, -1, 2}},
		{5, restTruth{0, -1, 1, -1}},
		{4, restTruth{-1, 2, -1, -1}},
		{3, restTruth{-1, -1, -1, -1}}, // no world
		{7, restTruth{0, 1, -1, 2}},
	}
	for _, s := range steps {
		w[2] = s.last
		if got := restsTold(t, w, 2, 0); got != s.want {
			t.Errorf("%v has %v, not %v", w, got, s.want)
		}
	}
}

func TestRestsWriteNothing(t *testing.T) {
	for _, w := range append(worlds(), []int{3, 3}, flat(8)) {
		roomy := append(slices.Clone(w), 91, 92, 93)
		before := slices.Clone(roomy)
		given := roomy[:len(w)]
		ofEachPair(w, func(a, b int) {
			if restsTold(t, given, a, b) != restsTold(t, w, a, b) {
				t.Errorf("%v, %d and %d: what follows it is read", w, a, b)
			}
		})
		if !slices.Equal(roomy, before) {
			t.Fatalf("%v is written to: %v", before, roomy)
		}
	}
}

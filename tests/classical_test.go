package tests

import (
	"math"
	"slices"
	"testing"

	"loop.example/partsandwholes/impl"
)

// classicalTruth is what chapter 6 answers of a world: its names, or none if it is not classical.
type classicalTruth struct {
	w     []int
	names []int
	name  string
}

func classicalRows() []classicalTruth {
	return slices.Concat(classicalOnes(), otherOnes())
}

func classicalOnes() []classicalTruth {
	return []classicalTruth{
		{[]int{1}, []int{0}, "one atom"},
		{[]int{1, 2, 7}, []int{0, 1, 2}, "two atoms and their whole"},
		{[]int{1, 7, 4}, []int{0, 2, 1}, "the whole between its atoms"},
		{[]int{7, 2, 4}, []int{2, 0, 1}, "the whole ahead of its atoms"},
		{sevenMixed, []int{0, 1, 2, 3, 4, 5, 6}, "all sets of three points"},
		{backwards(sevenMixed), []int{6, 2, 4, 0, 5, 1, 3}, "all sets of three points backwards"},
		{worldOfSets([]int{1, 2, 4, 3, 5, 6, 7}), []int{0, 1, 3, 2, 4, 5, 6}, "the points first, then the sets of two"},
		{worldOfSets([]int{1, 2, 4, 7, 6, 5, 3}), []int{0, 1, 3, 6, 5, 4, 2}, "the points first, the sets of two last"},
		{worldOfSets([]int{7, 6, 5, 3, 1, 2, 4}), []int{6, 5, 4, 2, 0, 1, 3}, "the points last"},
		{worldOfSets([]int{4, 2, 1, 6, 5, 3, 7}), []int{0, 1, 3, 2, 4, 5, 6}, "the points in the opposite order, which are counted anew"},
		{worldOfSets([]int{3, 1, 7, 4, 6, 2, 5}), []int{4, 0, 6, 1, 5, 3, 2}, "all sets of three points, in no order"},
	}
}

func otherOnes() []classicalTruth {
	return []classicalTruth{
		{[]int{1, 2}, nil, "two atoms alone: strong, without all sums"},
		{[]int{1, 2, 4}, nil, "three atoms alone: as many as two atoms and their whole"},
		{flat(7), nil, "seven atoms alone: as many as all sets of three points"},
		{[]int{1, 2, 7, 8}, nil, "two atoms and their whole, and an atom"},
		{[]int{1, 2, 4, 15}, nil, "three atoms and their whole, without those of two"},
		{worldOfSets([]int{1, 2, 4, 3, 5, 6}), nil, "all sets of three points but the whole"},
		{worldOfSets([]int{1, 2, 4, 3, 5, 7}), nil, "all sets of three points but one of two"},
		{[]int{1, 2, 4, 8, 16, 32, 127}, nil, "six atoms and their whole"},
		{worldOfSets([]int{1, 2, 4, 8, 3, 12, 15}), nil, "four points, two sets of two, and the whole"},
		{worldOfSets([]int{1, 2, 4, 3, 5, 6, 8}), nil, "all sets of three points but the whole, and another point"},
		{[]int{1, 3}, nil, "one proper part: all sums, and not strong"},
		{[]int{3, 2}, nil, "one proper part behind its whole"},
		{line(3), nil, "three in a line: as many as two atoms and their whole"},
		{line(7), nil, "seven in a line: as many as all sets of three points"},
		{sixOfOne, nil, "a thing that is part of six others"},
		{twoAtoms, nil, "a whole with a whole of the same atoms: all sums, and not strong"},
		{[]int{1, 2, 7, 11}, nil, "two wholes of the same two atoms: all sums, and weak"},
		{[]int{1, 2, 7, 15, 31}, nil, "two wholes of a whole of two atoms, in a line"},
		{[]int{1, 2, 5}, nil, "one proper part beside an atom: neither"},
		{[]int{1, 2, 4, 11, 23}, nil, "two of three atoms that are no part of the whole of three: neither"},
	}
}

// classicalWorlds has all worlds of up to five things, worlds of seven, and all strong ones of up to seven but for the order of their things, those with all sums in all orders but for other names of the points.
func classicalWorlds() [][]int {
	all := slices.Concat(restWorlds(), strongWorlds())
	for _, r := range classicalRows() {
		all = append(all, r.w)
	}
	return all
}

// thingTold asks that true is said just if there is a thing, beside which it is no -1.
func thingTold(t *testing.T, w []int, set int) int {
	t.Helper()
	a, ok := impl.ThingOf(w, set)
	if ok != (a >= 0) || a < -1 {
		t.Errorf("ThingOf(%v, %d) is %d and %v", w, set, a, ok)
	}
	return a
}

func thingAsDefined(r relation, set int) int {
	if found := r.withAtoms(members(set)); len(found) == 1 {
		return found[0]
	}
	return -1
}

func TestClassicalRows(t *testing.T) {
	for _, r := range classicalRows() {
		told, _ := relationOf(r.w)
		classical := told.strong() && told.summed()
		if !isWorld(r.w) || classical != (r.names != nil) || classical && !slices.Equal(told.names(), r.names) {
			t.Errorf("%s: the row of %v is wrong: %v, %v", r.name, r.w, classical, told.names())
		}
		if got := impl.ClassicalOk(r.w); got != (r.names != nil) {
			t.Errorf("%s: ClassicalOk(%v) is %v", r.name, r.w, got)
		}
		if got := impl.NamesOf(r.w); !slices.Equal(got, r.names) {
			t.Errorf("%s: NamesOf(%v) is %v, not %v", r.name, r.w, got, r.names)
		}
	}
}

func TestThingOfRows(t *testing.T) {
	back := backwards(sevenMixed)
	rows := []struct {
		w         []int
		set, want int
		name      string
	}{
		{[]int{1}, 1, 0, "the one atom"},
		{[]int{1, 2}, 1, 0, "an atom beside another one"},
		{[]int{1, 2}, 2, 1, "the other one"},
		{[]int{1, 2}, 3, -1, "both, of which there is no thing"},
		{[]int{1, 2, 7}, 1, 0, "an atom of a whole"},
		{[]int{1, 2, 7}, 3, 2, "both atoms of a whole"},
		{[]int{1, 2, 7}, 4, -1, "the whole, which is no atom"},
		{[]int{1, 2, 7}, 5, -1, "the whole and an atom"},
		{[]int{1, 2, 7}, 7, -1, "the whole and both atoms"},
		{[]int{7, 2, 4}, 6, 0, "both atoms, behind their whole"},
		{[]int{7, 2, 4}, 4, 2, "an atom behind its whole"},
		{[]int{7, 2, 4}, 3, -1, "the first two things, of which one is the whole"},
		{[]int{1, 3}, 1, -1, "an atom and a whole of it alone"},
		{[]int{1, 3}, 2, -1, "a whole of one atom, which is none"},
		{[]int{1, 3}, 3, -1, "both"},
		{[]int{1, 3, 4}, 4, 2, "an atom beside these"},
		{[]int{1, 2, 7, 11}, 1, 0, "one of the atoms of two wholes"},
		{[]int{1, 2, 7, 11}, 3, -1, "two wholes of the same two atoms"},
		{twoAtoms, 2, 1, "one of the atoms of a whole with a whole"},
		{twoAtoms, 3, -1, "a whole with a whole of the same atoms"},
		{[]int{1, 2, 4, 15}, 3, -1, "two of three atoms"},
		{[]int{1, 2, 4, 15}, 7, 3, "all three atoms"},
		{[]int{1, 2, 4, 11, 23}, 3, 3, "two of three atoms that are no part of the whole of three"},
		{[]int{1, 2, 4, 11, 23}, 7, 4, "all three, whose whole has all their atoms"},
		{[]int{1, 2, 4, 11, 23}, 5, -1, "two others of them"},
		{sevenMixed, 8, 3, "the last of three points"},
		{sevenMixed, 9, 4, "the first and the last of three points"},
		{sevenMixed, 11, 6, "all three points"},
		{sevenMixed, 4, -1, "a set of two points, which is no atom"},
		{sevenMixed, 7, -1, "two points and their sum"},
		{sevenMixed, 127, -1, "all things"},
		{back, 64 + 32 + 8, 0, "all three points, the whole first"},
		{back, 64 + 8, 2, "the first and the last of three points, backwards"},
		{back, 11, -1, "things that are no atoms"},
		{flat(7), 64, 6, "the last of seven atoms"},
		{flat(7), 127, -1, "seven atoms alone"},
		{[]int{1, 2, 4, 8, 16, 32, 127}, 63, 6, "six atoms of a whole"},
		{[]int{1, 2, 4, 8, 16, 32, 127}, 31, -1, "but five of them"},
		{[]int{1, 2, 4, 8, 16, 63, 95}, 31, -1, "two wholes of the same five atoms"},
		{sixOfOne, 1, -1, "an atom with six wholes of it alone"},
		{line(7), 1, -1, "the first of seven in a line"},
		{line(7), 64, -1, "the last of seven in a line"},
	}
	for _, r := range rows {
		told, _ := relationOf(r.w)
		if !isWorld(r.w) || thingAsDefined(told, r.set) != r.want {
			t.Errorf("%s: the row of %v and %d is wrong: %d", r.name, r.w, r.set, thingAsDefined(told, r.set))
		}
		if got := thingTold(t, r.w, r.set); got != r.want {
			t.Errorf("%s: ThingOf(%v, %d) is %d, not %d", r.name, r.w, r.set, got, r.want)
		}
	}
}

func TestClassicalAsDefined(t *testing.T) {
	for _, w := range classicalWorlds() {
		told, _ := relationOf(w)
		classical := told.strong() && told.summed()
		if got := impl.ClassicalOk(w); got != classical {
			t.Errorf("ClassicalOk(%v) is %v", w, got)
		}
		var names []int
		if classical {
			names = told.names()
		}
		if got := impl.NamesOf(w); !slices.Equal(got, names) {
			t.Errorf("NamesOf(%v) is %v, not %v", w, got, names)
		}
		for set := range power(len(w)) {
			if got, want := thingTold(t, w, set), thingAsDefined(told, set); got != want {
				t.Errorf("ThingOf(%v, %d) is %d, not %d", w, set, got, want)
			}
		}
	}
}

// TestStrongWorldsAreStrong counts them, too: of 1 to 7 points there are 1, 2, 16, 232, 352, 58 and 1, and as many backwards.
func TestStrongWorldsAreStrong(t *testing.T) {
	all := strongWorlds()
	if len(all) != 2*662 {
		t.Error("there are", len(all))
	}
	for _, w := range all {
		if told, _ := relationOf(w); !isWorld(w) || !told.strong() || !impl.StrongOk(w) {
			t.Errorf("%v is not strong", w)
		}
	}
}

// TestClassicalWorldsAreAll counts them: of one atom there is one, of two there are three, one for each place of the whole, and of three all orders of seven things but for those of the points.
func TestClassicalWorldsAreAll(t *testing.T) {
	got := map[int]int{} // by how many things they have
	for _, w := range slices.Concat(smallWorlds(), worldsOfFive(), threePoints()) {
		if impl.ClassicalOk(w) {
			got[len(w)]++
		}
	}
	if len(got) != 3 || got[1] != 1 || got[3] != 3 || got[7] != 840 {
		t.Fatal(got)
	}
}

func TestClassicalOfAll(t *testing.T) {
	if impl.MaxAtoms != 3 {
		t.Error("MaxAtoms is", impl.MaxAtoms)
	}
	for atoms, want := range [][]int{nil, {1}, {1, 2, 7}, {1, 2, 7, 8, 25, 42, 127}, nil} {
		if got := impl.ClassicalOf(atoms); !slices.Equal(got, want) {
			t.Errorf("ClassicalOf(%d) is %v, not %v", atoms, got, want)
		}
	}
}

func TestClassicalOfNone(t *testing.T) {
	none := []int{0, -1, -2, -3, -62, -63, -64, math.MinInt, math.MinInt + 1, math.MinInt + 3, 4, 5, 6, 7, 8, 31, 32, 33, 62, 63, 64, 65, 66, 67, math.MaxInt - 1, math.MaxInt}
	for _, atoms := range none {
		if got := impl.ClassicalOf(atoms); len(got) != 0 {
			t.Errorf("ClassicalOf(%d) is %v", atoms, got)
		}
	}
	for atoms := -300; atoms <= 300; atoms++ {
		if got := impl.ClassicalOf(atoms); (len(got) != 0) != (atoms >= 1 && atoms <= 3) {
			t.Errorf("ClassicalOf(%d) is %v", atoms, got)
		}
	}
}

func TestPromise25(t *testing.T) {
	for atoms := 1; atoms <= impl.MaxAtoms; atoms++ {
		if !impl.ClassicalOk(impl.ClassicalOf(atoms)) {
			t.Errorf("of %d atoms it is not classical: %v", atoms, impl.ClassicalOf(atoms))
		}
	}
	for _, w := range classicalWorlds() {
		atoms := impl.AtomsOf(w)
		var found []int
		for set := 1; set < power(len(w)); set++ {
			if a, ok := impl.ThingOf(w, set); ok {
				found = append(found, a)
				if !inside(set, atoms) {
					t.Errorf("ThingOf(%v, %d) is %d, but not all of these are atoms", w, set, a)
				}
			}
		}
		slices.Sort(found)
		if len(slices.Compact(slices.Clone(found))) != len(found) {
			t.Errorf("%v: things have more than one set of atoms: %v", w, found)
		}
		sets := power(len(members(atoms))) - 1
		if impl.ClassicalOk(w) && (len(found) != sets || len(w) != sets) {
			t.Errorf("%v is classical, but of %d sets of atoms there are the things %v", w, sets, found)
		}
	}
}

func TestPromise26(t *testing.T) {
	for atoms := 1; atoms <= impl.MaxAtoms; atoms++ {
		w := impl.ClassicalOf(atoms)
		if !isWorld(w) || !impl.ClassicalOk(w) {
			t.Errorf("ClassicalOf(%d) is %v", atoms, w)
		}
		if got := members(impl.AtomsOf(w)); len(got) != atoms {
			t.Errorf("ClassicalOf(%d) has the atoms %v", atoms, got)
		}
		if whole, ok := impl.WholeOf(w); !ok || whole != len(w)-1 {
			t.Errorf("the whole of ClassicalOf(%d) is %d and %v", atoms, whole, ok)
		}
		told, _ := relationOf(w)
		ofEachPair(w, func(a, b int) {
			if told[a][b] != inside(a+1, b+1) {
				t.Errorf("ClassicalOf(%d): %d is a part of %d: %v", atoms, a, b, told[a][b])
			}
		})
	}
}

func TestPromise27(t *testing.T) {
	for _, w := range classicalWorlds() {
		if !impl.StrongOk(w) {
			continue
		}
		for a := range w {
			if got := thingTold(t, w, impl.AtomsIn(w, a)); got != a {
				t.Errorf("%v is strong, but of the atoms of %d it is %d", w, a, got)
			}
		}
	}
}

func TestPromise28(t *testing.T) {
	for _, w := range classicalWorlds() {
		if !impl.ClassicalOk(w) {
			continue
		}
		names := impl.NamesOf(w)
		same := impl.ClassicalOf(len(members(impl.AtomsOf(w))))
		if len(names) != len(w) || len(same) != len(w) {
			t.Fatalf("%v has the names %v, in %v", w, names, same)
		}
		ofEachPair(w, func(a, b int) {
			if a != b && names[a] == names[b] {
				t.Errorf("%v: %d and %d have the same name %d", w, a, b, names[a])
			}
			if impl.PartOk(w, a, b) != impl.PartOk(same, names[a], names[b]) {
				t.Errorf("%v: %d and %d are not as their names %d and %d", w, a, b, names[a], names[b])
			}
		})
		named := -1 // the atoms are named in their order
		for _, atom := range members(impl.AtomsOf(w)) {
			if names[atom] <= named {
				t.Errorf("%v has the names %v: not in the order of its atoms", w, names)
			}
			named = names[atom]
		}
	}
}

// TestClassicalOfAtomsAlone asks of worlds without proper parts, of one thing up to MaxThings.
func TestClassicalOfAtomsAlone(t *testing.T) {
	for n := 1; n <= 7; n++ {
		if got, names := impl.ClassicalOk(flat(n)), impl.NamesOf(flat(n)); got != (n == 1) || (len(names) != 0) != (n == 1) {
			t.Errorf("%d atoms alone are classical: %v, with the names %v", n, got, names)
		}
		ofEachSet([][]int{flat(n)}, func(w []int, set int) {
			want := -1
			if list := members(set); len(list) == 1 {
				want = list[0]
			}
			if got := thingTold(t, w, set); got != want {
				t.Errorf("of %d of %d atoms alone it is %d", set, n, got)
			}
		})
	}
}

func notClassical(t *testing.T, w []int) {
	t.Helper()
	if impl.ClassicalOk(w) {
		t.Errorf("ClassicalOk(%v) is true", w)
	}
	if got := impl.NamesOf(w); len(got) != 0 {
		t.Errorf("NamesOf(%v) is %v", w, got)
	}
}

func noThing(t *testing.T, w []int, set int) {
	t.Helper()
	if got := thingTold(t, w, set); got != -1 {
		t.Errorf("ThingOf(%v, %d) is %d", w, set, got)
	}
}

func TestClassicalOfNoWorlds(t *testing.T) {
	none := almostWorlds()
	for _, w := range noWorlds() {
		none = append(none, w)
	}
	four := worldOfSets([]int{1, 2, 3, 4, 5, 6, 7, 8, 9, 10, 11, 12, 13, 14, 15})
	for _, w := range append(none, four, four[:8]) {
		notClassical(t, w)
		for set := range 130 {
			noThing(t, w, set)
		}
		for _, set := range noSets(min(len(w), 8)) {
			noThing(t, w, set)
		}
	}
}

// TestClassicalButForOneSet changes one set of a classical world: what is then no world has no names and no things.
func TestClassicalButForOneSet(t *testing.T) {
	for _, r := range classicalOnes() {
		for a := range r.w {
			for _, parts := range []int{0, -1, r.w[a] - power(a), r.w[a] + power(len(r.w)), r.w[a] - power(62), math.MinInt + r.w[a], math.MaxInt} {
				w := slices.Clone(r.w)
				w[a] = parts
				notClassical(t, w)
				for set := range power(len(w)) {
					noThing(t, w, set)
				}
			}
		}
	}
}

func TestThingOfNoSets(t *testing.T) {
	for _, w := range classicalWorlds() {
		for _, set := range noSets(len(w)) {
			noThing(t, w, set)
		}
	}
	for _, w := range [][]int{{1}, {1, 2}, {1, 3}, {3, 2}, {1, 2, 7}, twoAtoms, line(6), flat(7), sevenMixed, backwards(sevenMixed)} {
		for set := -300; set <= 0; set++ {
			noThing(t, w, set)
		}
		for set := power(len(w)); set < 300; set++ {
			noThing(t, w, set)
		}
	}
}

// TestClassicalIsNotKept asks of other worlds, and of none, in between.
func TestClassicalIsNotKept(t *testing.T) {
	for _, r := range classicalRows() {
		thing := thingTold(t, r.w, impl.AtomsOf(r.w))
		for _, other := range classicalRows() {
			impl.ClassicalOk(other.w)
			impl.NamesOf(other.w)
			impl.ThingOf(other.w, impl.AtomsOf(other.w))
			impl.NamesOf(nil)
			impl.ClassicalOf(len(other.w))
			if got := impl.NamesOf(r.w); impl.ClassicalOk(r.w) != (r.names != nil) || !slices.Equal(got, r.names) || thingTold(t, r.w, impl.AtomsOf(r.w)) != thing {
				t.Errorf("%s: %v behind %s", r.name, got, other.name)
			}
		}
	}
}

// overwritten writes to all memory that a result has, spare or not.
func overwritten(list []int) {
	for i := range list[:cap(list)] {
		list[:cap(list)][i] = 91
	}
}

func TestClassicalResultsAreNew(t *testing.T) {
	for atoms := 1; atoms <= 3; atoms++ {
		first, second := impl.ClassicalOf(atoms), impl.ClassicalOf(atoms)
		before := slices.Clone(first)
		overwritten(first)
		if third := impl.ClassicalOf(atoms); !slices.Equal(second, before) || !slices.Equal(third, before) {
			t.Errorf("ClassicalOf(%d) is %v, and then %v and %v", atoms, before, second, third)
		}
	}
	for _, r := range classicalOnes() {
		w := slices.Clone(r.w)
		first, second := impl.NamesOf(w), impl.NamesOf(w)
		overwritten(first)
		if third := impl.NamesOf(w); !slices.Equal(w, r.w) || !slices.Equal(second, r.names) || !slices.Equal(third, r.names) {
			t.Errorf("%s: NamesOf(%v) is %v and %v", r.name, w, second, third)
		}
		overwritten(w)
		if !slices.Equal(second, r.names) {
			t.Errorf("%s: the names are written to with the world: %v", r.name, second)
		}
	}
}

func TestClassicalWritesNothing(t *testing.T) {
	for _, w := range append(classicalWorlds(), []int{3, 3}, flat(8)) {
		roomy := append(slices.Clone(w), 91, 92, 93)
		before := slices.Clone(roomy)
		given := roomy[:len(w)]
		if impl.ClassicalOk(given) != impl.ClassicalOk(w) || !slices.Equal(impl.NamesOf(given), impl.NamesOf(w)) {
			t.Errorf("%v: what follows it is read", w)
		}
		for set := range power(len(w)) {
			if thingTold(t, given, set) != thingTold(t, w, set) {
				t.Errorf("%v and %d: what follows it is read", w, set)
			}
		}
		if !slices.Equal(roomy, before) {
			t.Fatalf("%v is written to: %v", before, roomy)
		}
	}
}

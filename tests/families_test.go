package tests

import (
	"math"
	"slices"
	"testing"

	"loop.example/partsandwholes/impl"
)

// familyTruth is what chapter 7 answers of a family: its world, and it with points and with sums; none where these are too many.
type familyTruth struct {
	list   []int
	world  []int
	points []int
	sums   []int
	name   string
}

func familyRows() []familyTruth {
	return slices.Concat(smallFamilyRows(), largeFamilyRows())
}

func smallFamilyRows() []familyTruth {
	return []familyTruth{
		{[]int{1}, []int{1}, []int{1}, []int{1}, "one point"},
		{[]int{8}, []int{1}, []int{8}, []int{8}, "the last point"},
		{[]int{6}, []int{1}, []int{6, 2, 4}, []int{6}, "one set of two points"},
		{[]int{15}, []int{1}, []int{15, 1, 2, 4, 8}, []int{15}, "all points in one set"},
		{[]int{1, 2}, []int{1, 2}, []int{1, 2}, []int{1, 2, 3}, "two points"},
		{[]int{2, 1}, []int{1, 2}, []int{2, 1}, []int{2, 1, 3}, "two points, the second one first"},
		{[]int{1, 3}, []int{1, 3}, []int{1, 3, 2}, []int{1, 3}, "a point and a set that has it"},
		{[]int{3, 1}, []int{3, 2}, []int{3, 1, 2}, []int{3, 1}, "the same, the set first"},
		{[]int{3, 5}, []int{1, 2}, []int{3, 5, 1, 2, 4}, []int{3, 5, 7}, "two sets that overlap without a common part"},
		{[]int{6, 3}, []int{1, 2}, []int{6, 3, 1, 2, 4}, []int{6, 3, 7}, "two such ones backwards"},
		{[]int{3, 6, 2}, []int{5, 6, 4}, []int{3, 6, 2, 1, 4}, []int{3, 6, 2, 7}, "two sets with their common part"},
		{[]int{3, 12}, []int{1, 2}, []int{3, 12, 1, 2, 4, 8}, []int{3, 12, 15}, "two sets with no common point"},
		{[]int{12, 3}, []int{1, 2}, []int{12, 3, 1, 2, 4, 8}, []int{12, 3, 15}, "the same backwards"},
		{[]int{7, 14}, []int{1, 2}, []int{7, 14, 1, 2, 4, 8}, []int{7, 14, 15}, "two sets with two common points"},
		{[]int{15, 4}, []int{3, 2}, []int{15, 4, 1, 2, 8}, []int{15, 4}, "all points, and one of them"},
		{[]int{1, 2, 4}, []int{1, 2, 4}, []int{1, 2, 4}, []int{1, 2, 4, 3, 5, 6, 7}, "three points"},
		{[]int{4, 1, 2}, []int{1, 2, 4}, []int{4, 1, 2}, []int{4, 1, 2, 3, 5, 6, 7}, "three points in no order"},
		{[]int{2, 4, 8}, []int{1, 2, 4}, []int{2, 4, 8}, []int{2, 4, 8, 6, 10, 12, 14}, "the last three points"},
		{[]int{3, 5, 6}, []int{1, 2, 4}, []int{3, 5, 6, 1, 2, 4}, []int{3, 5, 6, 7}, "all sets of two of three points"},
		{[]int{3, 6, 12}, []int{1, 2, 4}, []int{3, 6, 12, 1, 2, 4, 8}, []int{3, 6, 12, 7, 14, 15}, "three sets in a row, each of which overlaps the next one"},
		{[]int{3, 4, 8}, []int{1, 2, 4}, []int{3, 4, 8, 1, 2}, []int{3, 4, 8, 7, 11, 12, 15}, "a set and two other points"},
		{[]int{7, 11, 13}, []int{1, 2, 4}, []int{7, 11, 13, 1, 2, 4, 8}, []int{7, 11, 13, 15}, "three sets of three points"},
	}
}

func largeFamilyRows() []familyTruth {
	return []familyTruth{
		{[]int{1, 2, 4, 8}, []int{1, 2, 4, 8}, []int{1, 2, 4, 8}, nil, "all points, of which there are fifteen sums"},
		{[]int{1, 2, 4, 7}, []int{1, 2, 4, 15}, []int{1, 2, 4, 7}, []int{1, 2, 4, 7, 3, 5, 6}, "three points and their sum"},
		{[]int{7, 1, 2, 4}, []int{15, 2, 4, 8}, []int{7, 1, 2, 4}, []int{7, 1, 2, 4, 3, 5, 6}, "the same, the sum first"},
		{[]int{7, 6, 5, 3}, []int{15, 2, 4, 8}, []int{7, 6, 5, 3, 1, 2, 4}, []int{7, 6, 5, 3}, "the sets of two and three points backwards"},
		{[]int{1, 3, 7, 15}, line(4), []int{1, 3, 7, 15, 2, 4, 8}, []int{1, 3, 7, 15}, "four in a line"},
		{[]int{15, 7, 3, 1}, []int{15, 14, 12, 8}, []int{15, 7, 3, 1, 2, 4, 8}, []int{15, 7, 3, 1}, "the same backwards"},
		{[]int{7, 11, 13, 14}, []int{1, 2, 4, 8}, nil, []int{7, 11, 13, 14, 15}, "all sets of three points, with which there are eight with points"},
		{[]int{1, 2, 4, 8, 15}, []int{1, 2, 4, 8, 31}, []int{1, 2, 4, 8, 15}, nil, "all points, and all of them in a set"},
		{[]int{15, 12, 3, 7, 11}, []int{31, 2, 4, 12, 20}, nil, []int{15, 12, 3, 7, 11}, "five sets with all their sums, and without points"},
		{[]int{3, 12, 1, 2, 4, 8}, []int{13, 50, 4, 8, 16, 32}, []int{3, 12, 1, 2, 4, 8}, nil, "two sets with their points"},
		{[]int{1, 2, 4, 8, 3, 12, 15}, []int{1, 2, 4, 8, 19, 44, 127}, []int{1, 2, 4, 8, 3, 12, 15}, nil, "seven sets with all points, and without all sums"},
		{[]int{1, 2, 3, 4, 5, 6, 7}, sevenMixed, []int{1, 2, 3, 4, 5, 6, 7}, []int{1, 2, 3, 4, 5, 6, 7}, "all sets of three points"},
		{[]int{7, 6, 5, 4, 3, 2, 1}, backwards(sevenMixed), []int{7, 6, 5, 4, 3, 2, 1}, []int{7, 6, 5, 4, 3, 2, 1}, "the same backwards"},
		{[]int{1, 2, 4, 3, 5, 6, 8}, []int{1, 2, 4, 11, 21, 38, 64}, []int{1, 2, 4, 3, 5, 6, 8}, nil, "seven sets, one of them a point more"},
		{[]int{3, 5, 6, 9, 10, 12, 15}, []int{1, 2, 4, 8, 16, 32, 127}, nil, nil, "the sets of two points, and all of them: neither"},
		{[]int{3, 5, 6, 7, 11, 13, 15}, []int{1, 2, 4, 15, 17, 34, 127}, nil, []int{3, 5, 6, 7, 11, 13, 15}, "seven sets with all their sums, and without points"},
	}
}

// completedTold asks that true is said just if there is a family.
func completedTold(t *testing.T, list []int, of func([]int) ([]int, bool)) []int {
	t.Helper()
	with, ok := of(list)
	if ok != (len(with) > 0) {
		t.Errorf("%v is completed to %v and %v", list, with, ok)
	}
	return with
}

// ofEachFamily has all families in three orders each, and all of up to three sets in all orders.
func ofEachFamily(do func(list []int)) {
	for _, list := range families() {
		for _, other := range orders(list) {
			do(other)
		}
	}
	for length := 1; length <= 3; length++ {
		lists(length, 1, 15, func(list []int) {
			if isFamily(list) {
				do(list)
			}
		})
	}
}

// fewAtoms has the strong ones of worlds, of at most four atoms, among them all of up to five things in all their orders.
func fewAtoms() [][]int {
	var all [][]int
	for _, w := range classicalWorlds() {
		if told, _ := relationOf(w); told.strong() && len(told.atoms()) <= 4 {
			all = append(all, w)
		}
	}
	return all
}

func TestFamilyRows(t *testing.T) {
	for _, r := range familyRows() {
		if !isFamily(r.list) || !slices.Equal(worldOfSets(r.list), r.world) ||
			!slices.Equal(withBehind(r.list, pointsOf(r.list)), r.points) || !slices.Equal(withBehind(r.list, putTogether(r.list)), r.sums) {
			t.Errorf("%s: the row of %v is wrong", r.name, r.list)
		}
		if !impl.FamilyOk(r.list) {
			t.Errorf("%s: %v is no family", r.name, r.list)
		}
		if got := impl.WorldFrom(r.list); !slices.Equal(got, r.world) {
			t.Errorf("%s: WorldFrom(%v) is %v, not %v", r.name, r.list, got, r.world)
		}
		if got := completedTold(t, r.list, impl.WithPoints); !slices.Equal(got, r.points) {
			t.Errorf("%s: WithPoints(%v) is %v, not %v", r.name, r.list, got, r.points)
		}
		if got := completedTold(t, r.list, impl.WithSums); !slices.Equal(got, r.sums) {
			t.Errorf("%s: WithSums(%v) is %v, not %v", r.name, r.list, got, r.sums)
		}
	}
}

func TestFamilyOfRows(t *testing.T) {
	rows := []struct {
		w, want []int
		name    string
	}{
		{[]int{1}, []int{1}, "one atom"},
		{[]int{1, 2}, []int{1, 2}, "two atoms alone"},
		{[]int{1, 2, 7}, []int{1, 2, 3}, "two atoms and their whole"},
		{[]int{1, 7, 4}, []int{1, 3, 2}, "the whole between its atoms"},
		{[]int{7, 2, 4}, []int{3, 1, 2}, "the whole ahead of its atoms, which are counted from 0 on"},
		{[]int{1, 2, 7, 8}, []int{1, 2, 3, 4}, "an atom behind a whole of others, which is the third point"},
		{flat(4), []int{1, 2, 4, 8}, "MaxPoints atoms alone"},
		{[]int{1, 2, 4, 8, 31}, []int{1, 2, 4, 8, 15}, "MaxPoints atoms and their whole"},
		{[]int{31, 2, 4, 8, 16}, []int{15, 1, 2, 4, 8}, "the same, the whole first"},
		{worldOfSets([]int{3, 12, 15, 8, 4, 2, 1}), []int{12, 3, 15, 1, 2, 4, 8}, "seven things, MaxPoints atoms last and backwards"},
		{sevenMixed, []int{1, 2, 3, 4, 5, 6, 7}, "all sets of three points"},
		{backwards(sevenMixed), []int{7, 3, 5, 1, 6, 2, 4}, "the same backwards: the last point is counted first"},
		{flat(5), nil, "more atoms than MaxPoints"},
		{flat(6), nil, "six atoms alone"},
		{flat(7), nil, "seven atoms alone"},
		{[]int{1, 2, 4, 8, 16, 35}, nil, "five atoms, and a whole of two of them"},
		{[]int{1, 2, 4, 8, 16, 63}, nil, "five atoms and their whole"},
		{[]int{1, 2, 4, 8, 16, 63, 67}, nil, "five atoms and two wholes"},
		{[]int{127, 2, 4, 8, 16, 32, 64}, nil, "the whole of six atoms, and these"},
		{[]int{1, 3}, nil, "one proper part: not strong"},
		{[]int{3, 2}, nil, "the same, the whole first"},
		{[]int{1, 3, 4}, nil, "one proper part and an atom"},
		{line(7), nil, "seven in a line"},
		{twoAtoms, nil, "a whole with a whole of the same atoms"},
		{[]int{1, 2, 7, 11}, nil, "two wholes of the same two atoms, which have weak supplements"},
		{[]int{1, 2, 4, 11, 23}, nil, "two of three atoms that are no part of the whole of three"},
		{sixOfOne, nil, "a thing that is part of six others"},
	}
	for _, r := range rows {
		told, _ := relationOf(r.w)
		few := told.strong() && len(told.atoms()) <= 4
		if !isWorld(r.w) || few != (r.want != nil) || few && !slices.Equal(told.points(), r.want) {
			t.Errorf("%s: the row of %v is wrong: %v", r.name, r.w, told.points())
		}
		if got := impl.FamilyOf(r.w); !slices.Equal(got, r.want) {
			t.Errorf("%s: FamilyOf(%v) is %v, not %v", r.name, r.w, got, r.want)
		}
	}
}

// TestFamiliesOfTheDocument asks for what a desk answers of ab and bc in the examples, where b is common to both and no part of either.
func TestFamiliesOfTheDocument(t *testing.T) {
	list := []int{3, 6}
	if _, ok := impl.WholeOf(impl.WorldFrom(list)); ok || !impl.StrongOk(impl.WorldFrom(list)) {
		t.Error("ab and bc")
	}
	points, ok := impl.WithPoints(list)
	w := impl.WorldFrom(points)
	if !ok || !slices.Equal(points, []int{3, 6, 1, 2, 4}) || impl.SummedOk(w) {
		t.Error("with points it is", points, ok)
	}
	if common, ok := impl.CommonOf(w, 0, 1); !ok || points[common] != 2 {
		t.Error("common to both is", common, ok)
	}
	sums, ok := impl.WithSums(points)
	w = impl.WorldFrom(sums)
	if !ok || !slices.Equal(sums, []int{3, 6, 1, 2, 4, 5, 7}) || !impl.ClassicalOk(w) {
		t.Error("with sums it is", sums, ok)
	}
	if whole, ok := impl.WholeOf(w); !ok || sums[whole] != 7 {
		t.Error("the whole is", whole, ok)
	}
}

// TestFamilyOkAsDefined asks of all lists of up to three numbers, of which some are no sets of points.
func TestFamilyOkAsDefined(t *testing.T) {
	if impl.MaxPoints != 4 {
		t.Error("MaxPoints is", impl.MaxPoints)
	}
	for length := range 4 {
		lists(length, -2, 18, func(list []int) {
			if got := impl.FamilyOk(list); got != isFamily(list) {
				t.Errorf("FamilyOk(%v) is %v", list, got)
			}
		})
	}
	for set := -300; set <= 300; set++ {
		if got := impl.FamilyOk([]int{set}); got != (set >= 1 && set <= 15) {
			t.Errorf("FamilyOk of %d alone is %v", set, got)
		}
	}
}

// TestFamiliesAreAll counts them: of fifteen sets one to seven are chosen.
func TestFamiliesAreAll(t *testing.T) {
	got := map[int]int{} // by how many sets they have
	for _, list := range families() {
		if isFamily(list) && impl.FamilyOk(list) {
			got[len(list)]++
		}
	}
	for length, want := range []int{0, 15, 105, 455, 1365, 3003, 5005, 6435} {
		if got[length] != want {
			t.Errorf("of %d sets there are %d families", length, got[length])
		}
	}
}

func TestFamiliesAsDefined(t *testing.T) {
	for _, sorted := range families() {
		points, sums := pointsOf(sorted), putTogether(sorted)
		for _, list := range orders(sorted) {
			if !impl.FamilyOk(list) {
				t.Errorf("%v is no family", list)
			}
			if got := impl.WorldFrom(list); !slices.Equal(got, worldOfSets(list)) {
				t.Errorf("WorldFrom(%v) is %v", list, got)
			}
			if got, want := completedTold(t, list, impl.WithPoints), withBehind(list, points); !slices.Equal(got, want) {
				t.Errorf("WithPoints(%v) is %v, not %v", list, got, want)
			}
			if got, want := completedTold(t, list, impl.WithSums), withBehind(list, sums); !slices.Equal(got, want) {
				t.Errorf("WithSums(%v) is %v, not %v", list, got, want)
			}
		}
	}
}

// familyAsDefined is none if a world is not strong, or has too many atoms.
func familyAsDefined(w []int) []int {
	told, _ := relationOf(w)
	if !told.strong() || len(told.atoms()) > 4 {
		return nil
	}
	return told.points()
}

func TestFamilyOfAsDefined(t *testing.T) {
	for _, w := range classicalWorlds() {
		if got, want := impl.FamilyOf(w), familyAsDefined(w); !slices.Equal(got, want) {
			t.Errorf("FamilyOf(%v) is %v, not %v", w, got, want)
		}
	}
	for _, list := range families() {
		for _, other := range orders(list) {
			w := worldOfSets(other)
			if got, want := impl.FamilyOf(w), familyAsDefined(w); !slices.Equal(got, want) {
				t.Errorf("FamilyOf(%v) is %v, not %v", w, got, want)
			}
		}
	}
}

func TestPromise29(t *testing.T) {
	for set := 1; set <= 15; set++ {
		if !impl.FamilyOk([]int{set}) {
			t.Errorf("%d alone is no family", set)
		}
	}
	ofEachFamily(func(list []int) {
		for length := 1; length <= len(list); length++ {
			if !impl.FamilyOk(list[:length]) {
				t.Errorf("%v is no family", list[:length])
			}
		}
	})
}

func TestPromise30(t *testing.T) {
	overlapWithout := 0
	ofEachFamily(func(list []int) {
		w := impl.WorldFrom(list)
		if !isWorld(w) || !impl.WorldOk(w) || len(w) != len(list) {
			t.Fatalf("WorldFrom(%v) is %v", list, w)
		}
		ofEachPair(w, func(a, b int) {
			if impl.PartOk(w, a, b) != inside(list[a], list[b]) {
				t.Errorf("%v: PartOk of %d and %d is %v", list, a, b, impl.PartOk(w, a, b))
			}
			common := slices.ContainsFunc(members(list[a]), func(point int) bool { return inSet(list[b], point) })
			overlap := impl.OverlapOk(w, a, b)
			if overlap && !common {
				t.Errorf("%v: %d and %d have no common point, and overlap", list, a, b)
			}
			part := slices.ContainsFunc(list, func(set int) bool { return inside(set, list[a]) && inside(set, list[b]) })
			if overlap != part {
				t.Errorf("%v: OverlapOk of %d and %d is %v", list, a, b, overlap)
			}
			if common && !overlap {
				overlapWithout++
			}
		})
	})
	if overlapWithout == 0 {
		t.Error("no two sets have a common point and no common part")
	}
}

func TestPromise31(t *testing.T) {
	strong := fewAtoms()
	ofEachFamily(func(list []int) {
		if w := impl.WorldFrom(list); impl.StrongOk(w) && len(members(impl.AtomsOf(w))) <= impl.MaxPoints {
			strong = append(strong, w)
		}
	})
	for _, w := range strong {
		list := impl.FamilyOf(w)
		if !isFamily(list) || !impl.FamilyOk(list) || len(list) != len(w) {
			t.Errorf("FamilyOf(%v) is %v", w, list)
		}
		if got := impl.WorldFrom(list); !slices.Equal(got, w) {
			t.Errorf("FamilyOf(%v) is %v, the world of which is %v", w, list, got)
		}
		next := 1
		for _, atom := range members(impl.AtomsOf(w)) {
			if list[atom] != next {
				t.Errorf("FamilyOf(%v) is %v: the atom %d is not the point %d", w, list, atom, next)
			}
			next *= 2
		}
	}
}

// TestFewAtomsAreAll counts the strong worlds of one to five things: there are 1, 1, 4, 17 and 176, of which but that of five atoms alone has more than four.
func TestFewAtomsAreAll(t *testing.T) {
	strong, few := map[int]int{}, map[int]int{} // by how many things they have
	for _, w := range slices.Concat(smallWorlds(), worldsOfFive()) {
		if impl.StrongOk(w) {
			strong[len(w)]++
		}
		if len(impl.FamilyOf(w)) > 0 {
			few[len(w)]++
		}
	}
	for things, want := range []int{0, 1, 1, 4, 17, 176} {
		if strong[things] != want {
			t.Errorf("of %d things %d are strong", things, strong[things])
		}
		if things == 5 {
			want--
		}
		if few[things] != want {
			t.Errorf("of %d things %d are worlds of sets", things, few[things])
		}
	}
}

func TestPromise32(t *testing.T) {
	done := 0
	ofEachFamily(func(list []int) {
		with, ok := impl.WithPoints(list)
		if !ok {
			return
		}
		done++
		w := impl.WorldFrom(with)
		if !impl.StrongOk(w) || !slices.Equal(with[:len(list)], list) {
			t.Errorf("WithPoints(%v) is %v", list, with)
		}
		var points []int
		for a, set := range with {
			if len(members(set)) == 1 {
				points = append(points, a)
			}
		}
		if got := impl.AtomsOf(w); got != setOf(points) {
			t.Errorf("WithPoints(%v) is %v: its atoms are %v, and not %v", list, with, members(got), points)
		}
		if again, ok := impl.WithPoints(with); !ok || !slices.Equal(again, with) {
			t.Errorf("WithPoints(%v) is %v, and again %v", list, with, again)
		}
	})
	if done == 0 {
		t.Error("to no family points can be put")
	}
}

func TestPromise33(t *testing.T) {
	done := 0
	ofEachFamily(func(list []int) {
		with, ok := impl.WithSums(list)
		if !ok {
			return
		}
		done++
		w := impl.WorldFrom(with)
		if !isWorld(w) || !slices.Equal(with[:len(list)], list) {
			t.Errorf("WithSums(%v) is %v", list, with)
		}
		ofEachPair(w, func(a, b int) {
			least, ok := impl.LeastBound(w, setOf(slices.Compact([]int{a, b})))
			if !ok || with[least] != both(with[a], with[b]) {
				t.Errorf("WithSums(%v) is %v: the least bound of %d and %d is %d and %v", list, with, a, b, least, ok)
			}
		})
		if again, ok := impl.WithSums(with); !ok || !slices.Equal(again, with) {
			t.Errorf("WithSums(%v) is %v, and again %v", list, with, again)
		}
	})
	if done == 0 {
		t.Error("to no family sums can be put")
	}
}

// TestSumsOfAllHaveLeastBounds asks of three sets and more, too: the least bound is what is in any of them.
func TestSumsOfAllHaveLeastBounds(t *testing.T) {
	for _, r := range familyRows() {
		with, ok := impl.WithSums(r.list)
		if !ok {
			continue
		}
		w := impl.WorldFrom(with)
		for set := 1; set < power(len(w)); set++ {
			var some []int
			for _, a := range members(set) {
				some = append(some, with[a])
			}
			if least, ok := impl.LeastBound(w, set); !ok || with[least] != togetherOf(some) {
				t.Errorf("%s: of %v the least bound is %d and %v", r.name, some, least, ok)
			}
		}
	}
}

func noFamily(t *testing.T, name string, list []int) {
	t.Helper()
	if impl.FamilyOk(list) {
		t.Errorf("%s: FamilyOk(%v) is true", name, list)
	}
	if got := impl.WorldFrom(list); len(got) != 0 {
		t.Errorf("%s: WorldFrom(%v) is %v", name, list, got)
	}
	if got, ok := impl.WithPoints(list); ok || len(got) != 0 {
		t.Errorf("%s: WithPoints(%v) is %v and %v", name, list, got, ok)
	}
	if got, ok := impl.WithSums(list); ok || len(got) != 0 {
		t.Errorf("%s: WithSums(%v) is %v and %v", name, list, got, ok)
	}
}

func TestNoFamiliesAreRefused(t *testing.T) {
	for name, list := range noFamilies() {
		if isFamily(list) {
			t.Errorf("%s: %v is one", name, list)
		}
		noFamily(t, name, list)
	}
	for length := 8; length <= 15; length++ {
		noFamily(t, "more than MaxThings", members(power(length+1)-2))
	}
}

// TestFamiliesButForOneSet changes one set of a family, or puts one behind it.
func TestFamiliesButForOneSet(t *testing.T) {
	for _, r := range familyRows() {
		for i, set := range r.list {
			for _, wrong := range []int{0, -1, -set, 16, 16 + set, 31, 128 + set, power(32) + set, power(62) + set, math.MinInt, math.MinInt + set, math.MaxInt} {
				list := slices.Clone(r.list)
				list[i] = wrong
				noFamily(t, r.name, list)
			}
			noFamily(t, r.name, append(slices.Clone(r.list), set))
			noFamily(t, r.name, append([]int{set}, r.list...))
			list := slices.Clone(r.list)
			list[i] = list[(i+1)%len(list)]
			if len(list) > 1 {
				noFamily(t, r.name, list)
			}
		}
	}
}

func TestFamilyOfNoWorlds(t *testing.T) {
	none := almostWorlds()
	for _, w := range noWorlds() {
		none = append(none, w)
	}
	for _, w := range none {
		if got := impl.FamilyOf(w); len(got) != 0 {
			t.Errorf("FamilyOf(%v) is %v", w, got)
		}
	}
	for _, r := range classicalOnes() {
		for a := range r.w {
			for _, parts := range []int{0, -1, r.w[a] - power(a), r.w[a] + power(len(r.w)), r.w[a] - power(62), math.MinInt + r.w[a], math.MaxInt} {
				w := slices.Clone(r.w)
				w[a] = parts
				if got := impl.FamilyOf(w); len(got) != 0 {
					t.Errorf("FamilyOf(%v) is %v", w, got)
				}
			}
		}
	}
}

func asTold(t *testing.T, r familyTruth) bool {
	t.Helper()
	return impl.FamilyOk(r.list) && slices.Equal(impl.WorldFrom(r.list), r.world) &&
		slices.Equal(completedTold(t, r.list, impl.WithPoints), r.points) && slices.Equal(completedTold(t, r.list, impl.WithSums), r.sums)
}

// TestFamiliesAreNotKept asks of other families, and of none, in between.
func TestFamiliesAreNotKept(t *testing.T) {
	for _, r := range familyRows() {
		of := impl.FamilyOf(r.world)
		for _, other := range familyRows() {
			asTold(t, other)
			impl.FamilyOf(other.world)
			impl.WithSums([]int{1, 1})
			impl.WithPoints(nil)
			impl.FamilyOf(nil)
			if !asTold(t, r) || !slices.Equal(impl.FamilyOf(r.world), of) {
				t.Errorf("%s: it is not as before behind %s", r.name, other.name)
			}
		}
	}
}

// TestFamilyResultsAreNew writes to a result and then to the argument, and asks whether other results are as before.
func TestFamilyResultsAreNew(t *testing.T) {
	withPoints := func(list []int) []int { with, _ := impl.WithPoints(list); return with }
	withSums := func(list []int) []int { with, _ := impl.WithSums(list); return with }
	for _, r := range familyRows() {
		for _, of := range []func([]int) []int{impl.WorldFrom, withPoints, withSums, impl.FamilyOf} {
			for _, given := range [][]int{r.list, r.world} {
				list := append(slices.Clone(given), 91, 92, 93)[:len(given)]
				first, second := of(list), of(list)
				before := slices.Clone(first)
				overwritten(first)
				if third := of(list); !slices.Equal(list, given) || !slices.Equal(second, before) || !slices.Equal(third, before) {
					t.Errorf("%s: of %v it is %v, and then %v and %v", r.name, list, before, second, third)
				}
				overwritten(list)
				if !slices.Equal(second, before) {
					t.Errorf("%s: the result is written to with the argument: %v", r.name, second)
				}
			}
		}
	}
}

func TestFamiliesWriteNothing(t *testing.T) {
	given := [][]int{{3, 3}, {0}, {1, 2, 3, 4, 5, 6, 7, 8}, flat(8)}
	for _, r := range familyRows() {
		given = append(given, r.list, r.world)
	}
	for _, list := range given {
		roomy := append(slices.Clone(list), 91, 92, 93, 94, 95, 96, 97)
		before := slices.Clone(roomy)
		short := roomy[:len(list)]
		if impl.FamilyOk(short) != impl.FamilyOk(list) || !slices.Equal(impl.WorldFrom(short), impl.WorldFrom(list)) || !slices.Equal(impl.FamilyOf(short), impl.FamilyOf(list)) {
			t.Errorf("%v: what follows it is read", list)
		}
		for _, of := range []func([]int) ([]int, bool){impl.WithPoints, impl.WithSums} {
			if !slices.Equal(completedTold(t, short, of), completedTold(t, list, of)) {
				t.Errorf("%v: what follows it is read", list)
			}
		}
		if !slices.Equal(roomy, before) {
			t.Fatalf("%v is written to: %v", before, roomy)
		}
	}
}

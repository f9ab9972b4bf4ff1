package tests

import (
	"slices"
	"testing"

	"loop.example/partsandwholes/impl"
)

// atomTruth is what the functions of chapter 2 answer of a world.
type atomTruth struct {
	w      []int
	atoms  int
	in     []int // of each thing
	told   bool
	madeOf bool
	name   string
}

func atomRows() []atomTruth {
	return []atomTruth{
		{[]int{1}, 1, []int{1}, true, true, "one thing"},
		{[]int{1, 2}, 3, []int{1, 2}, true, true, "two atoms alone"},
		{[]int{1, 2, 4}, 7, []int{1, 2, 4}, true, true, "three atoms alone"},
		{flat(7), 127, flat(7), true, true, "seven atoms alone"},
		{[]int{1, 3}, 1, []int{1, 1}, false, false, "one proper part"},
		{[]int{3, 2}, 2, []int{2, 2}, false, false, "one proper part behind its whole"},
		{[]int{1, 2, 5}, 3, []int{1, 2, 1}, false, false, "one proper part beside an atom"},
		{line(7), 1, []int{1, 1, 1, 1, 1, 1, 1}, false, false, "seven in a line"},
		{backwards(line(7)), 64, []int{64, 64, 64, 64, 64, 64, 64}, false, false, "seven in a line backwards"},
		{[]int{1, 2, 7}, 3, []int{1, 2, 3}, true, true, "two atoms and their whole"},
		{[]int{7, 2, 4}, 6, []int{6, 2, 4}, true, true, "the whole first"},
		{[]int{7, 2, 6}, 2, []int{2, 2, 2}, false, false, "three in a line"},
		{twoAtoms, 3, []int{1, 2, 3, 3}, false, false, "a whole with a whole of the same atoms"},
		{[]int{1, 2, 7, 11}, 3, []int{1, 2, 3, 3}, false, false, "two wholes of the same two atoms"},
		{[]int{1, 2, 4, 11, 21}, 7, []int{1, 2, 4, 3, 5}, true, true, "two wholes with one atom in common"},
		{[]int{1, 2, 4, 11, 23}, 7, []int{1, 2, 4, 3, 7}, true, false, "two of three atoms that are no part of the whole of three"},
		{[]int{1, 2, 4, 11, 31}, 7, []int{1, 2, 4, 3, 7}, true, true, "two of three atoms that are a part of the whole of three"},
		{[]int{31, 30, 4, 8, 16}, 28, []int{28, 28, 4, 8, 16}, false, false, "the same three atoms, the wholes first"},
		{[]int{1, 2, 4, 8, 16, 35, 127}, 31, []int{1, 2, 4, 8, 16, 3, 31}, true, true, "five atoms, two of them in a whole, in the whole"},
		{[]int{1, 2, 4, 8, 16, 35, 95}, 31, []int{1, 2, 4, 8, 16, 3, 31}, true, false, "five atoms, two of them in a thing that is no part of the whole"},
		{worldOfSets([]int{1, 2, 3, 4, 5, 6, 7}), 11, []int{1, 2, 3, 8, 9, 10, 11}, true, true, "all sets of three points"},
		{worldOfSets([]int{7, 6, 5, 4, 3, 2, 1}), 104, []int{104, 40, 72, 8, 96, 32, 64}, true, true, "all sets of three points backwards"},
	}
}

// atomWorlds has all worlds of up to five things, since in four things or fewer those told by atoms are all made of them, and worlds of seven.
func atomWorlds() [][]int {
	all := append(worlds(), worldsOfFive()...)
	for _, r := range atomRows() {
		all = append(all, r.w)
	}
	return all
}

func TestAtomsOfRows(t *testing.T) {
	for _, r := range atomRows() {
		if got := impl.AtomsOf(r.w); got != r.atoms {
			t.Errorf("%s: AtomsOf(%v) is %d, not %d", r.name, r.w, got, r.atoms)
		}
		for a, want := range r.in {
			if got := impl.AtomsIn(r.w, a); got != want {
				t.Errorf("%s: AtomsIn(%v, %d) is %d, not %d", r.name, r.w, a, got, want)
			}
		}
		if got := impl.ToldByAtoms(r.w); got != r.told {
			t.Errorf("%s: ToldByAtoms(%v) is %v", r.name, r.w, got)
		}
		if got := impl.MadeOfAtoms(r.w); got != r.madeOf {
			t.Errorf("%s: MadeOfAtoms(%v) is %v", r.name, r.w, got)
		}
	}
}

func TestWorldsOfFiveAreAll(t *testing.T) {
	if got := len(worldsOfFive()); got != 4231 {
		t.Fatal(got)
	}
}

func TestPromise8(t *testing.T) {
	for _, w := range atomWorlds() {
		got := impl.AtomsOf(w)
		if got < 1 || !inside(got, power(len(w))-1) {
			t.Errorf("AtomsOf(%v) is %d", w, got)
		}
		told, _ := relationOf(w)
		for a := range w {
			proper := false
			for b := range w {
				proper = proper || impl.ProperOk(w, b, a)
			}
			if inSet(got, a) == proper || inSet(got, a) != told.atom(a) {
				t.Errorf("AtomsOf(%v) is %d, but %d has proper parts: %v", w, got, a, proper)
			}
		}
	}
}

func TestPromise9(t *testing.T) {
	for _, w := range atomWorlds() {
		told, _ := relationOf(w)
		atoms := impl.AtomsOf(w)
		for a := range w {
			got := impl.AtomsIn(w, a)
			if got < 1 || got != setOf(told.atomsIn(a)) || !inside(got, atoms) {
				t.Errorf("AtomsIn(%v, %d) is %d", w, a, got)
			}
			for b := range w {
				other := impl.AtomsIn(w, b)
				if impl.PartOk(w, a, b) && !inside(got, other) {
					t.Errorf("%v: the atoms of %d are not among those of its whole %d", w, a, b)
				}
				if impl.OverlapOk(w, a, b) == (got&other == 0) {
					t.Errorf("%v: %d and %d have the atoms %d and %d", w, a, b, got, other)
				}
			}
		}
	}
}

func TestPromise10(t *testing.T) {
	for n := 1; n <= 7; n++ {
		if !impl.ToldByAtoms(flat(n)) {
			t.Errorf("%d atoms alone are not told by atoms", n)
		}
	}
	for _, w := range atomWorlds() {
		r, _ := relationOf(w)
		want := true
		for b := range w {
			for a := range b {
				want = want && !slices.Equal(r.atomsIn(a), r.atomsIn(b))
			}
		}
		got := impl.ToldByAtoms(w)
		if got != want || impl.MadeOfAtoms(w) && !got {
			t.Errorf("ToldByAtoms(%v) is %v", w, got)
		}
	}
}

func TestPromise11(t *testing.T) {
	for n := 1; n <= 7; n++ {
		if !impl.MadeOfAtoms(flat(n)) {
			t.Errorf("%d atoms alone are not made of atoms", n)
		}
	}
	for _, w := range atomWorlds() {
		r, _ := relationOf(w)
		want, alike := true, false
		for a := range w {
			for b := range w {
				want = want && r[a][b] == inside(setOf(r.atomsIn(a)), setOf(r.atomsIn(b)))
				alike = alike || a != b && impl.MeetingSet(w, a) == impl.MeetingSet(w, b)
			}
		}
		got := impl.MadeOfAtoms(w)
		if got != want {
			t.Errorf("MadeOfAtoms(%v) is %v", w, got)
		}
		if got && alike {
			t.Errorf("%v: made of atoms, but two things overlap just the same things", w)
		}
	}
}

// TestOnePartIsNotTold puts to each world a thing with one proper part, an atom: these have the same atoms.
func TestOnePartIsNotTold(t *testing.T) {
	for _, w := range smallWorlds() {
		atoms := impl.AtomsOf(w)
		for _, a := range members(atoms) {
			more := withLast(w, power(a), 0)
			if impl.AtomsOf(more) != atoms || impl.AtomsIn(more, len(w)) != power(a) || impl.AtomsIn(more, a) != power(a) {
				t.Errorf("%v: the atoms are not those of %v", more, w)
			}
			if impl.ToldByAtoms(more) || impl.MadeOfAtoms(more) {
				t.Errorf("%v is told by its atoms", more)
			}
		}
	}
}

func TestAtomsOfNoWorlds(t *testing.T) {
	for name, w := range noWorlds() {
		if got := impl.AtomsOf(w); got != -1 {
			t.Errorf("%s: AtomsOf(%v) is %d", name, w, got)
		}
		if impl.ToldByAtoms(w) || impl.MadeOfAtoms(w) {
			t.Errorf("%s: %v is taken for a world", name, w)
		}
		for _, a := range append(noThings(len(w)), 0, 1, 2, 3, 4, 5, 6) {
			if got := impl.AtomsIn(w, a); got != -1 {
				t.Errorf("%s: AtomsIn(%v, %d) is %d", name, w, a, got)
			}
		}
	}
	for _, w := range almostWorlds() {
		if impl.AtomsOf(w) != -1 || impl.AtomsIn(w, 0) != -1 || impl.ToldByAtoms(w) || impl.MadeOfAtoms(w) {
			t.Errorf("%v is taken for a world", w)
		}
	}
}

func TestAtomsInNoThings(t *testing.T) {
	for _, w := range [][]int{{1}, {1, 2}, {1, 3}, {3, 2}, twoAtoms, line(6), flat(7), line(7), backwards(line(7))} {
		for _, a := range noThings(len(w)) {
			if a >= 0 && a < len(w) {
				continue
			}
			if got := impl.AtomsIn(w, a); got != -1 {
				t.Errorf("AtomsIn(%v, %d) is %d", w, a, got)
			}
		}
	}
}

// TestAtomsAreNotKept asks of other worlds in between: what was found of one is not told of the next one.
func TestAtomsAreNotKept(t *testing.T) {
	rows := atomRows()
	for _, r := range rows {
		for _, other := range rows {
			impl.AtomsOf(other.w)
			impl.AtomsIn(other.w, 0)
			impl.AtomsOf(nil)
			if impl.AtomsOf(r.w) != r.atoms || impl.AtomsIn(r.w, len(r.w)-1) != r.in[len(r.w)-1] {
				t.Errorf("%s: other atoms behind %s", r.name, other.name)
			}
			impl.ToldByAtoms(other.w)
			impl.MadeOfAtoms(other.w)
			if impl.ToldByAtoms(r.w) != r.told || impl.MadeOfAtoms(r.w) != r.madeOf {
				t.Errorf("%s: other answers behind %s", r.name, other.name)
			}
		}
	}
}

// TestAtomsReadTheWorldOfNow asks of a slice whose world has changed since.
func TestAtomsReadTheWorldOfNow(t *testing.T) {
	w := []int{1, 2, 7}
	if impl.AtomsOf(w) != 3 || !impl.ToldByAtoms(w) || !impl.MadeOfAtoms(w) {
		t.Error(w)
	}
	w[2] = 5
	if impl.AtomsOf(w) != 3 || impl.AtomsIn(w, 2) != 1 || impl.ToldByAtoms(w) || impl.MadeOfAtoms(w) {
		t.Error(w)
	}
	w[2] = 4
	if impl.AtomsOf(w) != 7 || impl.AtomsIn(w, 2) != 4 || !impl.ToldByAtoms(w) || !impl.MadeOfAtoms(w) {
		t.Error(w)
	}
	w[2] = 3
	if impl.AtomsOf(w) != -1 || impl.AtomsIn(w, 0) != -1 || impl.ToldByAtoms(w) || impl.MadeOfAtoms(w) {
		t.Error(w)
	}
}

func TestAtomsWriteNothing(t *testing.T) {
	for _, w := range append(worlds(), []int{3, 3}, flat(8)) {
		roomy := append(slices.Clone(w), 91, 92, 93)
		before := slices.Clone(roomy)
		given := roomy[:len(w)]
		if impl.AtomsOf(given) != impl.AtomsOf(w) || impl.ToldByAtoms(given) != impl.ToldByAtoms(w) || impl.MadeOfAtoms(given) != impl.MadeOfAtoms(w) {
			t.Errorf("%v: what follows it is read", w)
		}
		for a := range w {
			if impl.AtomsIn(given, a) != impl.AtomsIn(w, a) {
				t.Errorf("%v: what follows it is read", w)
			}
		}
		if !slices.Equal(roomy, before) {
			t.Fatalf("%v is written to: %v", before, roomy)
		}
	}
}

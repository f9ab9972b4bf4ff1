package tests

import (
	"slices"
	"testing"

	"loop.example/partsandwholes/impl"
)

// supplementTruth is what the first four functions of chapter 3 answer of a world.
type supplementTruth struct {
	company, weak, strong, extended bool
}

func supplementsOf(w []int) supplementTruth {
	return supplementTruth{impl.CompanyOk(w), impl.WeakOk(w), impl.StrongOk(w), impl.ExtendedOk(w)}
}

// supplementsAsDefined asks each sentence of the definitions of a relation.
func supplementsAsDefined(w []int) supplementTruth {
	r, _ := relationOf(w)
	all := supplementTruth{true, true, true, true}
	for a := range r {
		own := r.properParts(a)
		if len(own) == 1 {
			all.company = false
		}
		for b := range r {
			rest := len(r.rests(a, b)) > 0
			if slices.Contains(own, b) && !rest {
				all.weak = false
			}
			if !r[a][b] && !rest {
				all.strong = false
			}
			if a != b && len(own) > 0 && slices.Equal(own, r.properParts(b)) {
				all.extended = false
			}
		}
	}
	return all
}

type supplementRow struct {
	w    []int
	want supplementTruth
	name string
}

func supplementRows() []supplementRow {
	return []supplementRow{
		{[]int{1}, supplementTruth{true, true, true, true}, "one thing"},
		{[]int{1, 2}, supplementTruth{true, true, true, true}, "two atoms alone"},
		{[]int{1, 2, 4}, supplementTruth{true, true, true, true}, "three atoms alone"},
		{flat(7), supplementTruth{true, true, true, true}, "seven atoms alone"},
		{[]int{1, 3}, supplementTruth{false, false, false, true}, "one proper part"},
		{[]int{3, 2}, supplementTruth{false, false, false, true}, "one proper part behind its whole"},
		{[]int{1, 2, 5}, supplementTruth{false, false, false, true}, "one proper part beside an atom"},
		{[]int{1, 2, 4, 8, 16, 32, 80}, supplementTruth{false, false, false, true}, "one proper part beside many atoms"},
		{[]int{1, 3, 5}, supplementTruth{false, false, false, false}, "two wholes of one atom"},
		{line(3), supplementTruth{false, false, false, true}, "three in a line"},
		{line(7), supplementTruth{false, false, false, true}, "seven in a line"},
		{backwards(line(7)), supplementTruth{false, false, false, true}, "seven in a line backwards"},
		{[]int{1, 2, 7}, supplementTruth{true, true, true, true}, "two atoms and their whole"},
		{[]int{7, 2, 4}, supplementTruth{true, true, true, true}, "the whole first"},
		{[]int{1, 2, 4, 11}, supplementTruth{true, true, true, true}, "two atoms and their whole, and an atom"},
		{[]int{1, 2, 4, 15}, supplementTruth{true, true, true, true}, "three atoms and their whole"},
		{twoAtoms, supplementTruth{true, false, false, true}, "a whole with a whole of the same atoms"},
		{backwards(twoAtoms), supplementTruth{true, false, false, true}, "the same backwards"},
		{[]int{1, 2, 7, 11}, supplementTruth{true, true, false, false}, "two wholes of the same two atoms"},
		{backwards([]int{1, 2, 7, 11}), supplementTruth{true, true, false, false}, "the same backwards"},
		{[]int{1, 2, 7, 11, 19, 35, 67}, supplementTruth{true, true, false, false}, "five wholes of the same two atoms"},
		{[]int{1, 2, 7, 11, 31}, supplementTruth{true, false, false, false}, "two wholes of the same two atoms in a whole"},
		{[]int{1, 2, 7, 15, 23}, supplementTruth{true, false, false, false}, "two wholes of a whole of two atoms"},
		{[]int{1, 2, 4, 11, 21}, supplementTruth{true, true, true, true}, "two wholes with one atom in common"},
		{[]int{1, 2, 4, 11, 23}, supplementTruth{true, true, false, true}, "two of three atoms that are no part of the whole of three"},
		{[]int{1, 2, 4, 11, 31}, supplementTruth{true, true, true, true}, "two of three atoms that are a part of the whole of three"},
		{[]int{1, 2, 4, 8, 16, 35, 127}, supplementTruth{true, true, true, true}, "five atoms, two of them in a whole, in the whole"},
		{[]int{1, 2, 4, 8, 16, 35, 95}, supplementTruth{true, true, false, true}, "five atoms, two of them in a thing that is no part of the whole"},
		{[]int{1, 2, 4, 8, 16, 63, 95}, supplementTruth{true, true, false, false}, "two wholes of the same five atoms"},
		{worldOfSets([]int{1, 2, 3, 4, 5, 6, 7}), supplementTruth{true, true, true, true}, "all sets of three points"},
		{worldOfSets([]int{7, 6, 5, 4, 3, 2, 1}), supplementTruth{true, true, true, true}, "all sets of three points backwards"},
		{worldOfSets([]int{1, 2, 3, 4, 5, 7}), supplementTruth{true, true, true, true}, "all sets of three points but one"},
		{worldOfSets([]int{1, 2, 3, 7}), supplementTruth{true, false, false, true}, "a point of the whole that is no thing"},
	}
}

// supplementWorlds has all worlds of up to five things, since in four things or fewer those that are weak and extended are all strong, and worlds of seven.
func supplementWorlds() [][]int {
	all := append(worlds(), worldsOfFive()...)
	for _, r := range supplementRows() {
		all = append(all, r.w)
	}
	return all
}

func TestSupplementsOfRows(t *testing.T) {
	for _, r := range supplementRows() {
		if !isWorld(r.w) {
			t.Errorf("%s: %v is no world", r.name, r.w)
		}
		if got := supplementsOf(r.w); got != r.want {
			t.Errorf("%s: %v has %v, not %v", r.name, r.w, got, r.want)
		}
	}
}

func TestSupplementsAsDefined(t *testing.T) {
	for _, w := range supplementWorlds() {
		if got, want := supplementsOf(w), supplementsAsDefined(w); got != want {
			t.Errorf("%v has %v, not %v", w, got, want)
		}
	}
}

// TestAtomsAloneHaveAll asks of worlds without proper parts, of one thing up to MaxThings.
func TestAtomsAloneHaveAll(t *testing.T) {
	for n := 1; n <= 7; n++ {
		if got := supplementsOf(flat(n)); got != (supplementTruth{true, true, true, true}) {
			t.Errorf("%d atoms alone have %v", n, got)
		}
	}
}

func TestPromise12(t *testing.T) {
	for _, w := range supplementWorlds() {
		got := impl.CompanyOk(w)
		if impl.WeakOk(w) && !got {
			t.Errorf("%v has weak supplements, but no company", w)
		}
		one := false
		for a := range w {
			proper := 0
			for b := range w {
				if impl.ProperOk(w, b, a) {
					proper++
				}
			}
			one = one || proper == 1
		}
		if got == one {
			t.Errorf("CompanyOk(%v) is %v, but a thing has one proper part: %v", w, got, one)
		}
	}
	for _, w := range smallWorlds() {
		for _, a := range members(impl.AtomsOf(w)) { // a thing with this atom as its one proper part is put to it
			if more := withLast(w, power(a), 0); impl.CompanyOk(more) || impl.WeakOk(more) {
				t.Errorf("%v: a thing with one proper part has company", more)
			}
		}
	}
}

func TestPromise13(t *testing.T) {
	for _, w := range supplementWorlds() {
		want := true
		for a := range w {
			for b := range w {
				if impl.ProperOk(w, b, a) {
					_, rest := impl.RestIn(w, a, b)
					want = want && rest
				}
			}
		}
		got := impl.WeakOk(w)
		if got != want {
			t.Errorf("WeakOk(%v) is %v", w, got)
		}
		if impl.StrongOk(w) && !got {
			t.Errorf("%v has strong supplements, but not weak ones", w)
		}
	}
}

func TestPromise14(t *testing.T) {
	for _, w := range supplementWorlds() {
		got := impl.StrongOk(w)
		if got != impl.MadeOfAtoms(w) {
			t.Errorf("StrongOk(%v) is %v, but MadeOfAtoms %v", w, got, !got)
		}
		if got && !impl.ExtendedOk(w) {
			t.Errorf("%v is strong, but two things have the same proper parts", w)
		}
	}
}

func TestPromise15(t *testing.T) {
	// two of the things are atoms, and two wholes of these, wherever they stand
	lists(4, 0, 3, func(order []int) {
		if !slices.Equal(slices.Sorted(slices.Values(order)), []int{0, 1, 2, 3}) {
			return
		}
		w := make([]int, 4)
		atoms := power(order[0]) + power(order[1])
		w[order[0]], w[order[1]] = power(order[0]), power(order[1])
		w[order[2]], w[order[3]] = atoms+power(order[2]), atoms+power(order[3])
		if got := supplementsOf(w); got != (supplementTruth{true, true, false, false}) {
			t.Errorf("%v: two wholes of the same two atoms have %v", w, got)
		}
	})
	// two wholes of the same atoms, two or more
	for n := 2; n <= 5; n++ {
		w := append(flat(n), power(n)-1+power(n), power(n)-1+power(n+1))
		if got := supplementsOf(w); got != (supplementTruth{true, true, false, false}) {
			t.Errorf("%v: two wholes of the same %d atoms have %v", w, n, got)
		}
	}
	for _, w := range supplementWorlds() {
		if impl.StrongOk(w) && !impl.ExtendedOk(w) {
			t.Errorf("%v is strong, but not extended", w)
		}
	}
}

func TestRestInOfRows(t *testing.T) {
	rows := []struct {
		w          []int
		a, b, want int
	}{
		{[]int{1}, 0, 0, -1},
		{[]int{1, 2}, 0, 0, -1},
		{[]int{1, 2}, 0, 1, 0},
		{[]int{1, 2}, 1, 0, 1},
		{[]int{1, 3}, 1, 0, -1},
		{[]int{1, 3}, 0, 1, -1},
		{[]int{1, 3, 4}, 1, 2, 0},
		{[]int{3, 2, 4}, 0, 2, 0}, // all of it is a part that is apart
		{[]int{1, 2, 7}, 2, 0, 1},
		{[]int{1, 2, 7}, 2, 1, 0},
		{[]int{1, 2, 7}, 0, 2, -1},
		{[]int{1, 2, 7}, 2, 2, -1},
		{[]int{7, 2, 4}, 0, 1, 2},
		{[]int{1, 2, 4, 15}, 3, 0, 1}, // the first one of two
		{[]int{1, 2, 4, 15}, 3, 2, 0},
		{twoAtoms, 3, 2, -1},
		{twoAtoms, 3, 0, 1},
		{[]int{1, 2, 7, 11}, 2, 3, -1}, // no part of the other one, and yet none
		{[]int{1, 2, 7, 11}, 3, 1, 0},
		{[]int{1, 2, 4, 11, 21}, 3, 4, 1},
		{[]int{1, 2, 4, 11, 21}, 4, 3, 2},
		{[]int{1, 2, 4, 11, 23}, 3, 4, -1},
		{[]int{1, 2, 4, 11, 23}, 4, 3, 2},
		{[]int{1, 2, 4, 8, 16, 32, 127}, 6, 0, 1},
		{[]int{1, 2, 4, 8, 16, 32, 127}, 6, 5, 0},
		{worldOfSets([]int{7, 6, 5, 4, 3, 2, 1}), 0, 6, 1}, // a part with parts, ahead of these
		{worldOfSets([]int{7, 6, 5, 4, 3, 2, 1}), 0, 1, 6},
		{worldOfSets([]int{7, 6, 5, 4, 3, 2, 1}), 2, 4, 3},
		{flat(7), 6, 5, 6},
		{flat(7), 6, 6, -1},
		{line(7), 6, 0, -1},
		{line(7), 0, 6, -1},
	}
	for _, r := range rows {
		if got, ok := impl.RestIn(r.w, r.a, r.b); got != r.want || ok != (r.want >= 0) {
			t.Errorf("RestIn(%v, %d, %d) is %d and %v, not %d", r.w, r.a, r.b, got, ok, r.want)
		}
	}
}

func TestPromise16(t *testing.T) {
	for _, w := range supplementWorlds() {
		r, _ := relationOf(w)
		for a := range w {
			for b := range w {
				got, ok := impl.RestIn(w, a, b)
				if rests := r.rests(a, b); ok != (len(rests) > 0) || ok && got != rests[0] {
					t.Errorf("RestIn(%v, %d, %d) is %d and %v of %v", w, a, b, got, ok, rests)
				}
				if ok && (!impl.PartOk(w, got, a) || impl.OverlapOk(w, got, b)) {
					t.Errorf("RestIn(%v, %d, %d) is %d: no part of the one, or not apart from the other one", w, a, b, got)
				}
				if !ok && got != -1 {
					t.Errorf("RestIn(%v, %d, %d) is %d and false", w, a, b, got)
				}
				if ok && impl.PartOk(w, a, b) {
					t.Errorf("RestIn(%v, %d, %d) is %d: a rest of a part in its whole", w, a, b, got)
				}
			}
		}
	}
}

func noRest(w []int, a, b int) bool {
	got, ok := impl.RestIn(w, a, b)
	return got == -1 && !ok
}

func TestSupplementsOfNoWorlds(t *testing.T) {
	for _, w := range almostWorlds() {
		if got := supplementsOf(w); got != (supplementTruth{}) || !noRest(w, 0, 1) || !noRest(w, 2, 0) {
			t.Errorf("%v is taken for a world: %v", w, got)
		}
	}
	for name, w := range noWorlds() {
		if got := supplementsOf(w); got != (supplementTruth{}) {
			t.Errorf("%s: %v is taken for a world: %v", name, w, got)
		}
		numbers := append(noThings(len(w)), 0, 1, 2, 3, 4, 5, 6)
		for _, a := range numbers {
			for _, b := range numbers {
				if !noRest(w, a, b) {
					t.Errorf("%s: %v is taken for a world, with %d and %d", name, w, a, b)
				}
			}
		}
	}
}

func TestRestInOfNoThings(t *testing.T) {
	for _, w := range [][]int{{1}, {1, 2}, {1, 3}, {3, 2}, twoAtoms, line(6), flat(7), line(7), backwards(line(7))} {
		for _, a := range noThings(len(w)) {
			if a >= 0 && a < len(w) {
				continue
			}
			for b := range w {
				if !noRest(w, a, b) || !noRest(w, b, a) || !noRest(w, a, a) {
					t.Errorf("%v: %d is taken for a thing, with %d", w, a, b)
				}
			}
		}
	}
}

// TestSupplementsAreNotKept asks of other worlds in between.
func TestSupplementsAreNotKept(t *testing.T) {
	rows := supplementRows()
	for _, r := range rows {
		for _, other := range rows {
			supplementsOf(other.w)
			impl.RestIn(other.w, len(other.w)-1, 0)
			supplementsOf(nil)
			if got := supplementsOf(r.w); got != r.want {
				t.Errorf("%s: %v behind %s", r.name, got, other.name)
			}
		}
	}
}

func TestSupplementsWriteNothing(t *testing.T) {
	for _, w := range append(worlds(), []int{3, 3}, flat(8)) {
		roomy := append(slices.Clone(w), 91, 92, 93)
		before := slices.Clone(roomy)
		given := roomy[:len(w)]
		if supplementsOf(given) != supplementsOf(w) {
			t.Errorf("%v: what follows it is read", w)
		}
		for a := range w {
			for b := range w {
				got, ok := impl.RestIn(given, a, b)
				if want, is := impl.RestIn(w, a, b); got != want || ok != is {
					t.Errorf("%v: what follows it is read", w)
				}
			}
		}
		if !slices.Equal(roomy, before) {
			t.Fatalf("%v is written to: %v", before, roomy)
		}
	}
}

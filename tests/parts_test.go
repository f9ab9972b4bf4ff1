package tests

import (
	"math"
	"slices"
	"testing"

	"loop.example/partsandwholes/impl"
)

// twoAtoms has two atoms, their whole, and a whole of that with nothing else.
var twoAtoms = []int{1, 2, 7, 15}

func TestMaxThings(t *testing.T) {
	if impl.MaxThings != 7 {
		t.Fatal(impl.MaxThings)
	}
}

func TestWorldsOfTheDocument(t *testing.T) {
	for n, want := range []int{1, 3, 19, 219} {
		got := 0
		lists(n+1, 0, power(n+1)-1, func(w []int) {
			if impl.WorldOk(w) {
				got++
			}
		})
		if got != want {
			t.Errorf("worlds of %d things: %d, not %d", n+1, got, want)
		}
	}
}

func TestWorldOkAsDefined(t *testing.T) {
	for n := range 4 {
		lists(n, -2, power(n)+1, func(w []int) {
			if got := impl.WorldOk(w); got != isWorld(w) {
				t.Errorf("WorldOk(%v) is %v", w, got)
			}
		})
	}
	lists(4, 0, 15, func(w []int) {
		if got := impl.WorldOk(w); got != isWorld(w) {
			t.Errorf("WorldOk(%v) is %v", w, got)
		}
	})
}

func TestWorldOkOfMaxThings(t *testing.T) {
	for _, w := range largeWorlds() {
		if !impl.WorldOk(w) {
			t.Errorf("WorldOk(%v) is false", w)
		}
		for b := range w {
			for a := range 8 { // each number taken from one set or put to it
				other := slices.Clone(w)
				other[b] ^= power(a)
				if got := impl.WorldOk(other); got != isWorld(other) {
					t.Errorf("WorldOk(%v) is %v", other, got)
				}
			}
		}
	}
}

func TestWorldOkOfNoWorlds(t *testing.T) {
	for name, w := range noWorlds() {
		if impl.WorldOk(w) {
			t.Errorf("%s: %v is a world", name, w)
		}
	}
}

func TestPromise1(t *testing.T) {
	if !impl.WorldOk([]int{1}) {
		t.Error("one thing is no world")
	}
	for n := 1; n <= 7; n++ {
		if !impl.WorldOk(flat(n)) {
			t.Errorf("%d things none of which is a part of another one are no world", n)
		}
	}
	for _, w := range worlds() {
		last := len(w) - 1
		if last > 0 && impl.WholesOf(w, last) == power(last) && !impl.WorldOk(w[:last]) {
			t.Errorf("%v without its last thing is no world", w)
		}
	}
}

func TestPartOkOfWorlds(t *testing.T) {
	rows := []struct {
		w    []int
		a, b int
		want bool
	}{
		{[]int{1}, 0, 0, true},
		{[]int{1, 2}, 0, 0, true},
		{[]int{1, 2}, 0, 1, false},
		{[]int{1, 3}, 0, 1, true},
		{[]int{1, 3}, 1, 0, false},
		{[]int{3, 2}, 1, 0, true},
		{[]int{3, 2}, 0, 1, false},
		{twoAtoms, 0, 2, true},
		{twoAtoms, 0, 1, false},
		{twoAtoms, 2, 0, false},
		{twoAtoms, 2, 3, true},
		{twoAtoms, 3, 3, true},
		{line(7), 0, 6, true},
		{line(7), 6, 0, false},
		{flat(7), 5, 6, false},
		{flat(7), 6, 6, true},
	}
	for _, r := range rows {
		if got := impl.PartOk(r.w, r.a, r.b); got != r.want {
			t.Errorf("PartOk(%v, %d, %d) is %v", r.w, r.a, r.b, got)
		}
	}
	for _, w := range worlds() {
		told, _ := relationOf(w)
		for a := range w {
			for b := range w {
				if got := impl.PartOk(w, a, b); got != told[a][b] {
					t.Errorf("PartOk(%v, %d, %d) is %v", w, a, b, got)
				}
			}
		}
	}
}

func TestPromise2(t *testing.T) {
	for _, w := range worlds() {
		for a := range w {
			if !impl.PartOk(w, a, a) {
				t.Errorf("%v: %d is no part of itself", w, a)
			}
			for b := range w {
				if a != b && impl.PartOk(w, a, b) && impl.PartOk(w, b, a) {
					t.Errorf("%v: %d and %d are parts of each other", w, a, b)
				}
				for c := range w {
					if impl.PartOk(w, a, b) && impl.PartOk(w, b, c) && !impl.PartOk(w, a, c) {
						t.Errorf("%v: %d is no part of %d", w, a, c)
					}
				}
			}
		}
	}
}

func TestPromise3(t *testing.T) {
	rows := []struct {
		w    []int
		a, b int
		want bool
	}{
		{[]int{1}, 0, 0, false},
		{[]int{1, 2}, 0, 1, false},
		{[]int{1, 3}, 0, 1, true},
		{[]int{1, 3}, 1, 0, false},
		{twoAtoms, 2, 2, false},
		{twoAtoms, 2, 3, true},
		{twoAtoms, 0, 3, true},
		{twoAtoms, 3, 0, false},
		{line(7), 5, 6, true},
		{flat(7), 5, 6, false},
	}
	for _, r := range rows {
		if got := impl.ProperOk(r.w, r.a, r.b); got != r.want {
			t.Errorf("ProperOk(%v, %d, %d) is %v", r.w, r.a, r.b, got)
		}
	}
	for _, w := range worlds() {
		for a := range w {
			for b := range w {
				got := impl.ProperOk(w, a, b)
				if got != (impl.PartOk(w, a, b) && a != b) {
					t.Errorf("ProperOk(%v, %d, %d) is %v", w, a, b, got)
				}
				if got && impl.ProperOk(w, b, a) {
					t.Errorf("%v: %d and %d are proper parts of each other", w, a, b)
				}
			}
		}
	}
}

func TestPromise4(t *testing.T) {
	rows := []struct {
		w    []int
		a, b int
		want bool
	}{
		{[]int{1}, 0, 0, true},
		{[]int{1, 2}, 0, 1, false},
		{[]int{1, 3}, 1, 0, true},
		{[]int{1, 2, 4, 11, 21}, 3, 4, true},
		{[]int{1, 2, 4, 11, 21}, 1, 2, false},
		{[]int{1, 2, 4, 11, 21}, 1, 4, false},
		{twoAtoms, 0, 1, false},
		{twoAtoms, 2, 3, true},
		{line(7), 6, 0, true},
		{flat(7), 6, 5, false},
	}
	for _, r := range rows {
		if got := impl.OverlapOk(r.w, r.a, r.b); got != r.want {
			t.Errorf("OverlapOk(%v, %d, %d) is %v", r.w, r.a, r.b, got)
		}
	}
	for _, w := range worlds() {
		told, _ := relationOf(w)
		for a := range w {
			for b := range w {
				got := impl.OverlapOk(w, a, b)
				if got != told.overlap(a, b) || got != impl.OverlapOk(w, b, a) || impl.PartOk(w, a, b) && !got {
					t.Errorf("OverlapOk(%v, %d, %d) is %v", w, a, b, got)
				}
				for c := range w {
					if got && impl.PartOk(w, b, c) && !impl.OverlapOk(w, a, c) {
						t.Errorf("%v: %d overlaps %d, and not its whole %d", w, a, b, c)
					}
				}
			}
		}
	}
}

func TestPromise5(t *testing.T) {
	rows := []struct {
		w       []int
		a, want int
	}{
		{[]int{1}, 0, 1},
		{[]int{1, 2}, 1, 2},
		{[]int{1, 3}, 0, 3},
		{[]int{1, 3}, 1, 2},
		{twoAtoms, 0, 13},
		{twoAtoms, 1, 14},
		{twoAtoms, 2, 12},
		{twoAtoms, 3, 8},
		{line(7), 0, 127},
		{line(7), 6, 64},
		{flat(7), 6, 64},
	}
	for _, r := range rows {
		if got := impl.WholesOf(r.w, r.a); got != r.want {
			t.Errorf("WholesOf(%v, %d) is %d, not %d", r.w, r.a, got, r.want)
		}
	}
	for _, w := range worlds() {
		for a := range w {
			got := impl.WholesOf(w, a)
			if !inSet(got, a) || !inside(got, power(len(w))-1) {
				t.Errorf("WholesOf(%v, %d) is %d", w, a, got)
			}
			for b := range w {
				if b != a && inSet(got, b) != impl.ProperOk(w, a, b) {
					t.Errorf("WholesOf(%v, %d) is %d", w, a, got)
				}
				if inSet(got, b) && !inside(impl.WholesOf(w, b), got) {
					t.Errorf("%v: the wholes of %d are not among those of %d", w, b, a)
				}
			}
		}
	}
}

func TestPromise6(t *testing.T) {
	rows := []struct {
		w       []int
		a, want int
	}{
		{[]int{1}, 0, 1},
		{[]int{1, 2}, 0, 1},
		{[]int{1, 3}, 0, 3},
		{twoAtoms, 0, 13},
		{twoAtoms, 1, 14},
		{twoAtoms, 2, 15},
		{twoAtoms, 3, 15},
		{[]int{1, 2, 4, 11, 21}, 1, 10},
		{[]int{1, 2, 4, 11, 21}, 3, 27},
		{line(7), 3, 127},
		{flat(7), 6, 64},
	}
	for _, r := range rows {
		if got := impl.MeetingSet(r.w, r.a); got != r.want {
			t.Errorf("MeetingSet(%v, %d) is %d, not %d", r.w, r.a, got, r.want)
		}
	}
	for _, w := range worlds() {
		for a := range w {
			got := impl.MeetingSet(w, a)
			if !inside(w[a], got) || !inside(impl.WholesOf(w, a), got) || !inside(got, power(len(w))-1) {
				t.Errorf("MeetingSet(%v, %d) is %d", w, a, got)
			}
			for b := range w {
				if inSet(got, b) != impl.OverlapOk(w, a, b) {
					t.Errorf("MeetingSet(%v, %d) is %d", w, a, got)
				}
				if impl.PartOk(w, a, b) && !inside(got, impl.MeetingSet(w, b)) {
					t.Errorf("%v: what meets %d does not all meet its whole %d", w, a, b)
				}
			}
		}
	}
}

func TestPromise7(t *testing.T) {
	rows := []struct {
		w    []int
		want int
	}{
		{[]int{1}, 1},
		{[]int{1, 2}, 1},
		{[]int{1, 3}, 2},
		{[]int{3, 2}, 2},
		{twoAtoms, 3},
		{backwards(twoAtoms), 3},
		{[]int{1, 3, 4, 12, 31}, 3},
		{[]int{1, 3, 7, 8, 24}, 3},
		{[]int{1, 2, 6, 14}, 3},
		{flat(7), 1},
		{line(7), 7},
		{backwards(line(7)), 7},
		{worldOfSets([]int{1, 2, 3, 4, 5, 6, 7}), 3},
	}
	for _, r := range rows {
		if got := impl.DeepOf(r.w); got != r.want {
			t.Errorf("DeepOf(%v) is %d, not %d", r.w, got, r.want)
		}
	}
	for _, w := range worlds() {
		told, _ := relationOf(w)
		proper, inLine := false, true
		for a := range w {
			for b := range w {
				proper = proper || impl.ProperOk(w, a, b)
				inLine = inLine && (impl.PartOk(w, a, b) || impl.PartOk(w, b, a))
			}
		}
		got := impl.DeepOf(w)
		if got != told.deep() || (got == 1) == proper || (got == len(w)) != inLine {
			t.Errorf("DeepOf(%v) is %d", w, got)
		}
	}
}

// refused reports whether all functions of chapter 1 that are asked of two things answer as they do for others.
func refused(w []int, a, b int) bool {
	return !impl.PartOk(w, a, b) && !impl.ProperOk(w, a, b) && !impl.OverlapOk(w, a, b)
}

func TestNoWorldsAreRefused(t *testing.T) {
	for name, w := range noWorlds() {
		if got := impl.DeepOf(w); got != -1 {
			t.Errorf("%s: DeepOf(%v) is %d", name, w, got)
		}
		numbers := append(noThings(len(w)), 0, 1, 2, 3, 4, 5, 6)
		for _, a := range numbers {
			if got := impl.WholesOf(w, a); got != -1 {
				t.Errorf("%s: WholesOf(%v, %d) is %d", name, w, a, got)
			}
			if got := impl.MeetingSet(w, a); got != -1 {
				t.Errorf("%s: MeetingSet(%v, %d) is %d", name, w, a, got)
			}
			for _, b := range numbers {
				if !refused(w, a, b) {
					t.Errorf("%s: %v is taken for a world, with %d and %d", name, w, a, b)
				}
			}
		}
	}
}

func TestNoThingsAreRefused(t *testing.T) {
	for _, w := range [][]int{{1}, {1, 2}, {1, 3}, {3, 2}, twoAtoms, line(6), flat(7), line(7), backwards(line(7))} {
		for _, a := range noThings(len(w)) {
			if a >= 0 && a < len(w) {
				continue
			}
			if got := impl.WholesOf(w, a); got != -1 {
				t.Errorf("WholesOf(%v, %d) is %d", w, a, got)
			}
			if got := impl.MeetingSet(w, a); got != -1 {
				t.Errorf("MeetingSet(%v, %d) is %d", w, a, got)
			}
			for b := range w {
				if !refused(w, a, b) || !refused(w, b, a) || !refused(w, a, a) {
					t.Errorf("%v: %d is taken for a thing, with %d", w, a, b)
				}
			}
		}
	}
	if !refused(line(7), math.MinInt, math.MaxInt) || !refused(line(7), math.MaxInt, math.MinInt) {
		t.Error("numbers of no things are taken for things")
	}
}

func TestWorldsAreNotWrittenTo(t *testing.T) {
	for _, w := range append(worlds(), []int{3, 3}, flat(8)) {
		roomy := append(slices.Clone(w), 91, 92, 93)
		before := slices.Clone(roomy)
		given := roomy[:len(w)]
		for range 2 { // asked again, all is as it was
			deep := impl.DeepOf(given)
			if deep != impl.DeepOf(w) || impl.WorldOk(given) != impl.WorldOk(w) {
				t.Errorf("%v: what follows it is read", w)
			}
			for a := range w {
				if impl.WholesOf(given, a) != impl.WholesOf(w, a) || impl.MeetingSet(given, a) != impl.MeetingSet(w, a) {
					t.Errorf("%v: what follows it is read", w)
				}
				refused(given, a, 0)
			}
			if !slices.Equal(roomy, before) {
				t.Fatalf("%v is written to: %v", before, roomy)
			}
		}
	}
}

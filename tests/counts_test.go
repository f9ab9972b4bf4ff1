package tests

import (
	"slices"
	"testing"

	"loop.example/partsandwholes/impl"
)

type kindRow struct {
	w    []int
	want kindTruth
	name string
}

func kindRows() []kindRow {
	all := kindTruth{true, true, true, true, true, true}
	strong := kindTruth{true, true, true, true, true, false}
	weak := kindTruth{true, true, true, false, false, false}
	weakExtended := kindTruth{true, true, true, false, true, false}
	company := kindTruth{true, true, false, false, false, false}
	companyExtended := kindTruth{true, true, false, false, true, false}
	world := kindTruth{true, false, false, false, false, false}
	extended := kindTruth{true, false, false, false, true, false}
	return []kindRow{
		{[]int{1}, all, "one thing"},
		{[]int{1, 2, 7}, all, "two atoms and their whole"},
		{[]int{1, 7, 4}, all, "the whole between its atoms"},
		{[]int{7, 2, 4}, all, "the whole first"},
		{sevenMixed, all, "all sets of three points"},
		{backwards(sevenMixed), all, "all sets of three points backwards"},
		{[]int{1, 2}, strong, "two atoms alone"},
		{flat(3), strong, "three atoms alone"},
		{flat(4), strong, "four atoms alone"},
		{flat(7), strong, "seven atoms alone"},
		{[]int{1, 2, 7, 8}, strong, "two atoms and their whole, and an atom"},
		{[]int{1, 2, 4, 15}, strong, "three atoms and their whole"},
		{[]int{1, 2, 7, 11}, weak, "two wholes of the same two atoms"},
		{backwards([]int{1, 2, 7, 11}), weak, "the same backwards"},
		{[]int{1, 2, 7, 11, 19, 35, 67}, weak, "five wholes of the same two atoms"},
		{[]int{1, 2, 4, 11, 23}, weakExtended, "two of three atoms that are no part of the whole of three"},
		{[]int{1, 2, 7, 11, 31}, company, "two wholes of the same two atoms in a whole"},
		{[]int{1, 2, 7, 15, 23}, company, "two wholes of a whole of two atoms"},
		{twoAtoms, companyExtended, "a whole with a whole of the same atoms"},
		{[]int{1, 3, 5}, world, "two wholes of one atom"},
		{[]int{3, 2, 6}, world, "the same, the atom between"},
		{[]int{1, 3, 5, 9}, world, "three wholes of one atom"},
		{[]int{1, 3, 5, 9, 17, 33, 65}, world, "six wholes of one atom"},
		{[]int{1, 3}, extended, "one proper part"},
		{[]int{3, 2}, extended, "one proper part behind its whole"},
		{[]int{1, 2, 5}, extended, "one proper part beside an atom"},
		{line(3), extended, "three in a line"},
		{line(4), extended, "four in a line"},
		{line(7), extended, "seven in a line"},
	}
}

func TestKindRows(t *testing.T) {
	if impl.Kinds != 6 || impl.MaxCounted != 4 {
		t.Error("Kinds and MaxCounted are", impl.Kinds, impl.MaxCounted)
	}
	for _, r := range kindRows() {
		if kindsAsDefined(r.w) != r.want {
			t.Errorf("%s: the row of %v is wrong: %v", r.name, r.w, kindsAsDefined(r.w))
		}
		if got := kindsTold(r.w); got != r.want {
			t.Errorf("%s: %v is of the kinds %v, not %v", r.name, r.w, got, r.want)
		}
	}
}

// countedWorlds has all worlds of up to five things, worlds of seven, and all strong ones but for the order of their things.
func countedWorlds() [][]int {
	all := slices.Concat(supplementWorlds(), strongWorlds(), threePoints())
	for _, r := range kindRows() {
		all = append(all, r.w)
	}
	return all
}

func TestKindsAsDefined(t *testing.T) {
	for _, w := range countedWorlds() {
		if got, want := kindsTold(w), kindsAsDefined(w); got != want {
			t.Errorf("%v is of the kinds %v, not %v", w, got, want)
		}
	}
}

func TestNoKinds(t *testing.T) {
	for _, r := range kindRows() {
		for _, kind := range wrongNumbers(0, 5) {
			if impl.KindOk(r.w, kind) {
				t.Errorf("%s: %v is of the kind %d", r.name, r.w, kind)
			}
		}
	}
}

func TestKindsOfNoWorlds(t *testing.T) {
	none := almostWorlds()
	for _, w := range noWorlds() {
		none = append(none, w)
	}
	for n := 1; n <= 3; n++ {
		lists(n, -1, power(n), func(w []int) {
			if !isWorld(w) {
				none = append(none, w)
			}
		})
	}
	for _, w := range none {
		for _, kind := range append(wrongNumbers(0, 5), 0, 1, 2, 3, 4, 5) {
			if impl.KindOk(w, kind) {
				t.Errorf("%v is of the kind %d", w, kind)
			}
		}
		if got := impl.ShapeOf(w); len(got) != 0 {
			t.Errorf("ShapeOf(%v) is %v", w, got)
		}
	}
}

// worldsListed has all worlds of so many things, in order.
func worldsListed() map[int][][]int {
	return map[int][][]int{
		1: {{1}},
		2: {{1, 2}, {1, 3}, {3, 2}},
		3: {
			{1, 2, 4}, {1, 2, 5}, {1, 2, 6}, {1, 2, 7}, {1, 3, 4}, {1, 3, 5}, {1, 3, 7}, {1, 6, 4}, {1, 7, 4}, {1, 7, 5},
			{3, 2, 4}, {3, 2, 6}, {3, 2, 7}, {5, 2, 4}, {5, 6, 4}, {5, 7, 4}, {7, 2, 4}, {7, 2, 6}, {7, 6, 4},
		},
	}
}

func sameWorlds(list, others [][]int) bool {
	return slices.EqualFunc(list, others, slices.Equal)
}

func TestWorldsOfAll(t *testing.T) {
	for n, want := range worldsListed() {
		if !sameWorlds(worldsAsDefined(n), want) {
			t.Errorf("the row of %d things is wrong: %v", n, worldsAsDefined(n))
		}
		got := impl.WorldsOf(n)
		if !sameWorlds(got, want) {
			t.Errorf("WorldsOf(%d) is %v", n, got)
		}
		if first, last := got[0], got[len(got)-1]; !slices.Equal(first, flat(n)) || !slices.Equal(last, backwards(line(n))) {
			t.Errorf("WorldsOf(%d) begins with %v and ends with %v", n, first, last)
		}
	}
}

func TestWorldsOfNone(t *testing.T) {
	for _, n := range wrongNumbers(1, 3) {
		if got := impl.WorldsOf(n); len(got) != 0 {
			t.Errorf("WorldsOf(%d) has %d worlds", n, len(got))
		}
	}
}

// worldCounts has for each number of things how many worlds are of each kind.
func worldCounts() map[int][6]int {
	return map[int][6]int{
		1: {1, 1, 1, 1, 1, 1},
		2: {3, 1, 1, 1, 3, 0},
		3: {19, 4, 4, 4, 16, 3},
		4: {219, 35, 23, 17, 149, 0},
	}
}

func TestCountWorldsOfAll(t *testing.T) {
	for n, want := range worldCounts() {
		if countsAsDefined(n) != want {
			t.Errorf("the row of %d things is wrong: %v", n, countsAsDefined(n))
		}
		for kind, count := range want {
			if got := impl.CountWorlds(n, kind); got != count {
				t.Errorf("CountWorlds(%d, %d) is %d, not %d", n, kind, got, count)
			}
		}
	}
}

func TestCountWorldsOfNone(t *testing.T) {
	things, kinds := numbersFrom(1, 4), numbersFrom(0, 5)
	noThings, noKinds := wrongNumbers(1, 4), wrongNumbers(0, 5)
	of := func(things, kinds []int) {
		for _, n := range things {
			for _, kind := range kinds {
				if got := impl.CountWorlds(n, kind); got != -1 {
					t.Errorf("CountWorlds(%d, %d) is %d", n, kind, got)
				}
			}
		}
	}
	of(things, noKinds)
	of(noThings, kinds)
	of(noThings, noKinds)
}

type shapeRow struct {
	w, want []int
	name    string
}

func shapeRows() []shapeRow {
	return []shapeRow{
		{[]int{1}, []int{1}, "one thing"},
		{[]int{1, 2}, []int{1, 2}, "two atoms alone"},
		{[]int{1, 3}, []int{1, 3}, "a part and its whole"},
		{[]int{3, 2}, []int{1, 3}, "a whole and its part"},
		{flat(3), flat(3), "three atoms alone"},
		{[]int{1, 2, 6}, []int{1, 2, 5}, "an atom, and a part and its whole"},
		{[]int{1, 6, 4}, []int{1, 2, 5}, "an atom, and a whole and its part"},
		{[]int{3, 2, 4}, []int{1, 2, 5}, "a whole and its part, and an atom"},
		{[]int{1, 2, 7}, []int{1, 2, 7}, "two atoms and their whole"},
		{[]int{1, 7, 4}, []int{1, 2, 7}, "the whole between its atoms"},
		{[]int{7, 2, 4}, []int{1, 2, 7}, "the whole first"},
		{[]int{1, 3, 5}, []int{1, 3, 5}, "two wholes of one atom"},
		{[]int{5, 6, 4}, []int{1, 3, 5}, "two wholes of one atom, which is the last"},
		{line(3), line(3), "three in a line"},
		{backwards(line(3)), line(3), "three in a line backwards"},
		{[]int{7, 2, 6}, line(3), "three in a line around"},
		{[]int{3, 2, 7}, line(3), "three in a line, the first two exchanged"},
		{flat(4), flat(4), "four atoms alone"},
		{[]int{1, 2, 4, 9}, []int{1, 2, 4, 9}, "the last one is a whole of the first"},
		{[]int{9, 2, 4, 8}, []int{1, 2, 4, 9}, "the first one is a whole of the last"},
		{[]int{1, 6, 4, 8}, []int{1, 2, 4, 9}, "two between, a whole and its part"},
		{[]int{1, 3, 4, 12}, []int{1, 2, 5, 10}, "a part and its whole, twice"},
		{[]int{9, 6, 4, 8}, []int{1, 2, 5, 10}, "the same, one within the other one"},
		{[]int{15, 2, 4, 8}, []int{1, 2, 4, 15}, "the whole of three ahead of them"},
		{[]int{11, 2, 4, 8}, []int{1, 2, 4, 11}, "the whole of two ahead, and an atom between them"},
		{[]int{1, 2, 11, 7}, nil, "parts of each other"},
		{[]int{1, 2, 11, 11}, nil, "the same parts"},
		{[]int{13, 14, 4, 8}, []int{1, 2, 7, 11}, "two wholes of the same two atoms behind them"},
		{[]int{1, 11, 13, 8}, []int{1, 2, 7, 11}, "the same between them"},
		{[]int{13, 10, 4, 8}, []int{1, 2, 5, 11}, "a whole of two, and one of one of them"},
		{[]int{15, 14, 4, 8}, []int{1, 2, 7, 15}, "a whole with a whole of the same atoms, backwards"},
		{[]int{15, 2, 6, 8}, []int{1, 2, 5, 15}, "an atom and a whole of one, in a whole"},
		{[]int{9, 10, 12, 8}, []int{1, 3, 5, 9}, "three wholes of one atom, which is the last"},
		{[]int{15, 10, 12, 8}, []int{1, 3, 5, 15}, "two wholes of one atom in a whole"},
		{[]int{13, 14, 12, 8}, []int{1, 3, 7, 11}, "two wholes of a whole of one atom"},
		{[]int{1, 14, 12, 8}, []int{1, 2, 5, 13}, "an atom, and three in a line"},
		{[]int{1, 10, 12, 8}, []int{1, 2, 5, 9}, "an atom, and two wholes of another one"},
		{[]int{9, 14, 12, 8}, []int{1, 3, 5, 11}, "a part of two, of which one has a whole"},
		{line(4), line(4), "four in a line"},
		{backwards(line(4)), line(4), "four in a line backwards"},
	}
}

func TestShapeRows(t *testing.T) {
	for _, r := range shapeRows() {
		if isWorld(r.w) != (r.want != nil) || r.want != nil && !slices.Equal(shapeAsDefined(r.w, worldsAsDefined(len(r.w))), r.want) {
			t.Errorf("%s: the row of %v is wrong", r.name, r.w)
		}
		if got := impl.ShapeOf(r.w); !slices.Equal(got, r.want) {
			t.Errorf("%s: ShapeOf(%v) is %v, not %v", r.name, r.w, got, r.want)
		}
	}
}

func TestShapesAsDefined(t *testing.T) {
	for n := 1; n <= 4; n++ {
		all := worldsAsDefined(n)
		for _, w := range all {
			if got, want := impl.ShapeOf(w), shapeAsDefined(w, all); !slices.Equal(got, want) {
				t.Errorf("ShapeOf(%v) is %v, not %v", w, got, want)
			}
		}
	}
}

// TestShapesOfNone asks of worlds of more than MaxCounted things, and of all lists of four sets of four things that are no world.
func TestShapesOfNone(t *testing.T) {
	large := slices.Concat(worldsOfFive(), largeWorlds(), strongWorlds())
	for n := 5; n <= 8; n++ {
		large = append(large, flat(n), line(n), backwards(line(n)))
	}
	for _, w := range large {
		if len(w) > 4 && len(impl.ShapeOf(w)) != 0 {
			t.Errorf("ShapeOf(%v) is %v", w, impl.ShapeOf(w))
		}
	}
	lists(4, 0, 15, func(w []int) {
		if !isWorld(w) && (len(impl.ShapeOf(w)) != 0 || kindsTold(w) != kindTruth{}) {
			t.Errorf("ShapeOf(%v) is %v, of the kinds %v", w, impl.ShapeOf(w), kindsTold(w))
		}
	})
}

func TestCountShapesOfNone(t *testing.T) {
	for _, n := range wrongNumbers(1, 3) {
		if got := impl.CountShapes(n); got != -1 {
			t.Errorf("CountShapes(%d) is %d", n, got)
		}
	}
}

func TestPromise53(t *testing.T) {
	only := [6]int{} // by the last of classical, strong, weak, company and world that a world is
	extended := 0    // without being strong
	for _, w := range countedWorlds() {
		is := kindsTold(w)
		for _, both := range [][2]int{{5, 3}, {3, 2}, {2, 1}, {1, 0}, {3, 4}, {4, 0}} {
			if is[both[0]] && !is[both[1]] {
				t.Errorf("%v is of the kind %d, but not of %d", w, both[0], both[1])
			}
		}
		if !is[0] {
			t.Errorf("%v is no world", w)
		}
		for _, kind := range []int{5, 3, 2, 1, 0} {
			if is[kind] {
				only[kind]++
				break
			}
		}
		if is[4] && !is[3] {
			extended++
		}
		want := kindTruth{impl.WorldOk(w), impl.CompanyOk(w), impl.WeakOk(w), impl.StrongOk(w), impl.ExtendedOk(w), impl.ClassicalOk(w)}
		if is != want {
			t.Errorf("%v is of the kinds %v, and not %v", w, is, want)
		}
	}
	for _, kind := range []int{5, 3, 2, 1, 0} {
		if only[kind] == 0 {
			t.Error("no worlds are of the kind and of no stronger one:", kind)
		}
	}
	if extended == 0 {
		t.Error("all extended worlds are strong")
	}
}

func TestPromise54(t *testing.T) {
	for n, count := range map[int]int{1: 1, 2: 3, 3: 19} {
		all := impl.WorldsOf(n)
		if len(all) != count {
			t.Errorf("WorldsOf(%d) has %d worlds", n, len(all))
		}
		for i, w := range all {
			if !impl.WorldOk(w) || len(w) != n {
				t.Errorf("WorldsOf(%d) has %v", n, w)
			}
			if i > 0 && !before(all[i-1], w) {
				t.Errorf("WorldsOf(%d) has %v ahead of %v", n, all[i-1], w)
			}
		}
	}
}

func TestPromise55(t *testing.T) {
	for n, count := range map[int]int{1: 1, 2: 3, 3: 19, 4: 219} {
		if got := impl.CountWorlds(n, 0); got != count {
			t.Errorf("there are %d worlds of %d things", got, n)
		}
		for _, both := range [][2]int{{5, 3}, {3, 2}, {2, 1}, {1, 0}, {3, 4}, {4, 0}} {
			strong, weak := impl.CountWorlds(n, both[0]), impl.CountWorlds(n, both[1])
			if strong < 0 || strong > weak {
				t.Errorf("of %d things there are %d worlds of the kind %d, and %d of the kind %d", n, strong, both[0], weak, both[1])
			}
			if n == 4 && strong == weak {
				t.Errorf("of four things there are as many worlds of the kind %d as of %d", both[0], both[1])
			}
		}
	}
	for n, count := range map[int]int{1: 1, 2: 0, 3: 3, 4: 0} {
		if got := impl.CountWorlds(n, 5); got != count {
			t.Errorf("there are %d classical worlds of %d things", got, n)
		}
	}
	for n := 1; n <= 3; n++ {
		for kind := range 6 {
			all := impl.WorldsOf(n)
			of := slices.DeleteFunc(all, func(w []int) bool { return !impl.KindOk(w, kind) })
			if got := impl.CountWorlds(n, kind); got != len(of) {
				t.Errorf("CountWorlds(%d, %d) is %d, but these are: %v", n, kind, got, of)
			}
		}
	}
}

func TestPromise56(t *testing.T) {
	own, others := 0, 0
	for _, w := range smallWorlds() {
		shape := impl.ShapeOf(w)
		if !isWorld(shape) || !impl.WorldOk(shape) || len(shape) != len(w) || partsInAll(shape) != partsInAll(w) {
			t.Fatalf("ShapeOf(%v) is %v", w, shape)
		}
		if again := impl.ShapeOf(shape); !slices.Equal(again, shape) {
			t.Errorf("ShapeOf(%v) is %v, and of that %v", w, shape, again)
		}
		if len(w) > 1 {
			exchanged := inOrder(w, append([]int{1, 0}, numbersFrom(2, len(w)-1)...))
			if other := impl.ShapeOf(exchanged); !slices.Equal(other, shape) {
				t.Errorf("ShapeOf(%v) is %v, and of %v it is %v", w, shape, exchanged, other)
			}
		}
		found := false
		for _, order := range ordersOf(len(w)) {
			same := inOrder(w, order)
			found = found || slices.Equal(same, shape)
			if other := impl.ShapeOf(same); !slices.Equal(other, shape) || before(same, shape) {
				t.Errorf("ShapeOf(%v) is %v, and of %v it is %v", w, shape, same, other)
			}
		}
		if !found {
			t.Errorf("ShapeOf(%v) is %v, which it is in no order", w, shape)
		}
		if slices.Equal(w, shape) {
			own++
		} else {
			others++
		}
	}
	if own != 1+2+5+16 || others != 242-own {
		t.Error("worlds that are their own shape:", own, "and others:", others)
	}
}

func TestPromise57(t *testing.T) {
	for n, count := range map[int]int{1: 1, 2: 2, 3: 5} {
		if got := impl.CountShapes(n); got != count || got > impl.CountWorlds(n, 0) {
			t.Errorf("of %d things there are %d shapes", n, got)
		}
		var shapes [][]int
		for _, w := range impl.WorldsOf(n) {
			if shape := impl.ShapeOf(w); slices.Equal(shape, w) {
				shapes = append(shapes, shape)
			} else if !slices.ContainsFunc(shapes, func(other []int) bool { return slices.Equal(other, shape) }) {
				t.Errorf("ShapeOf(%v) is %v, which is not ahead of it", w, shape)
			}
		}
		if len(shapes) != count {
			t.Errorf("of %d things there are the shapes %v", n, shapes)
		}
	}
}

// TestLinesAndAtomsAlone asks of worlds in which no thing is a part of another one, and of chains of parts, in each order.
func TestLinesAndAtomsAlone(t *testing.T) {
	for n := 1; n <= 4; n++ {
		for _, order := range ordersOf(n) {
			if got := impl.ShapeOf(inOrder(flat(n), order)); !slices.Equal(got, flat(n)) {
				t.Errorf("the shape of %d atoms alone is %v", n, got)
			}
			if got := impl.ShapeOf(inOrder(line(n), order)); !slices.Equal(got, line(n)) {
				t.Errorf("the shape of %d things in a line is %v", n, got)
			}
		}
	}
	for n := 1; n <= 7; n++ {
		if got := kindsTold(flat(n)); got != (kindTruth{true, true, true, true, true, n == 1}) {
			t.Errorf("%d atoms alone are of the kinds %v", n, got)
		}
		if got := kindsTold(line(n)); n > 1 && got != (kindTruth{true, false, false, false, true, false}) {
			t.Errorf("%d things in a line are of the kinds %v", n, got)
		}
	}
}

// TestCountsAreNotKept asks of other worlds, of other numbers, and of none, in between.
func TestCountsAreNotKept(t *testing.T) {
	for _, r := range shapeRows() {
		kinds := kindsTold(r.w)
		for _, other := range shapeRows() {
			impl.ShapeOf(other.w)
			impl.ShapeOf(nil)
			kindsTold(other.w)
			if got := impl.ShapeOf(r.w); !slices.Equal(got, r.want) || kindsTold(r.w) != kinds {
				t.Errorf("%s: ShapeOf(%v) is %v behind %s", r.name, r.w, got, other.name)
			}
		}
	}
	for n, counts := range worldCounts() {
		for other := -1; other <= 5; other++ {
			for kind := -1; kind <= 6; kind++ {
				impl.CountWorlds(other, kind)
				impl.CountShapes(other)
				impl.WorldsOf(other)
				if got := impl.CountWorlds(n, 1); got != counts[1] {
					t.Errorf("CountWorlds(%d, 1) is %d behind %d and %d", n, got, other, kind)
				}
				if want := worldsListed()[n]; n < 4 && !sameWorlds(impl.WorldsOf(n), want) {
					t.Errorf("WorldsOf(%d) is not as before behind %d", n, other)
				}
			}
		}
	}
}

// TestShapesOfNow changes a world between two calls.
func TestShapesOfNow(t *testing.T) {
	w := make([]int, 0, 4)
	for _, r := range shapeRows() {
		w = append(w[:0], r.w...)
		if got := impl.ShapeOf(w); !slices.Equal(got, r.want) || kindsTold(w) != kindsAsDefined(r.w) {
			t.Errorf("%s: ShapeOf(%v) is %v", r.name, w, got)
		}
	}
}

func TestShapesAreNew(t *testing.T) {
	for _, r := range shapeRows() {
		w := append(slices.Clone(r.w), 91, 92, 93)[:len(r.w)]
		first, second := impl.ShapeOf(w), impl.ShapeOf(w)
		overwritten(first)
		if third := impl.ShapeOf(w); !slices.Equal(w, r.w) || !slices.Equal(second, r.want) || !slices.Equal(third, r.want) || !slices.Equal(w[:len(w)+3][len(w):], []int{91, 92, 93}) {
			t.Errorf("%s: ShapeOf(%v) is %v, and then %v", r.name, w, second, third)
		}
		overwritten(w)
		if !slices.Equal(second, r.want) {
			t.Errorf("%s: the shape is written to with the world: %v", r.name, second)
		}
	}
}

// TestListedWorldsAreNew writes to all memory of one world after the other, and then to that of the list.
func TestListedWorldsAreNew(t *testing.T) {
	for n, want := range worldsListed() {
		first, second, third := impl.WorldsOf(n), impl.WorldsOf(n), impl.WorldsOf(n)
		for i := range first {
			overwritten(first[i])
			if !sameWorlds(first[i+1:], want[i+1:]) {
				t.Errorf("later worlds of %d things are written to with %v: %v", n, want[i], first)
			}
		}
		for i := len(second) - 1; i >= 0; i-- {
			overwritten(second[i])
			if !sameWorlds(second[:i], want[:i]) {
				t.Errorf("earlier worlds of %d things are written to with %v: %v", n, want[i], second)
			}
		}
		clear(first[:cap(first)])
		if fourth := impl.WorldsOf(n); !sameWorlds(third, want) || !sameWorlds(fourth, want) {
			t.Errorf("WorldsOf(%d) is %v, and then %v", n, third, fourth)
		}
		if impl.CountWorlds(n, 0) != len(want) {
			t.Errorf("CountWorlds(%d, 0) is %d", n, impl.CountWorlds(n, 0))
		}
	}
}

func TestCountsWriteNothing(t *testing.T) {
	given := slices.Concat(smallWorlds(), largeWorlds(), almostWorlds(), [][]int{{3, 3}, flat(5)})
	for _, w := range noWorlds() {
		given = append(given, w)
	}
	for _, w := range given {
		roomy := append(slices.Clone(w), 91, 92, 93)
		before := slices.Clone(roomy)
		if got := roomy[:len(w)]; kindsTold(got) != kindsTold(w) || !slices.Equal(impl.ShapeOf(got), impl.ShapeOf(w)) {
			t.Errorf("%v: what follows it is read", w)
		}
		if !slices.Equal(roomy, before) {
			t.Fatalf("%v is written to: %v", before, roomy)
		}
	}
}

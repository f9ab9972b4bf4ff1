package tests

import (
	"math"
	"slices"
	"sync"
	"testing"

	"loop.example/partsandwholes/impl"
)

// storyAsTold is a story with what chapter 10 answers of it.
type storyAsTold struct {
	story
	told storyTruth
}

func (in storyAsTold) last() []int {
	return in.told.ships[len(in.told.ships)-1]
}

// storiesTold asks but once, for all tests. Of no story there are fewer ships than one.
var storiesTold = sync.OnceValue(func() []storyAsTold {
	var all []storyAsTold
	for _, in := range append(smallStories(), longStories()...) {
		all = append(all, storyAsTold{in, storyTold(in.ship, in.list)})
	}
	return all
})

type commonRow struct {
	a, b   []int
	common int
	but    int // the least number but for which both are mostly the same; -1 if there is none
	name   string
}

func commonRows() []commonRow {
	return []commonRow{
		{[]int{0}, []int{0}, 1, 0, "one plank, the first one, and itself"},
		{[]int{99}, []int{99}, 1, 0, "one plank, the last one, and itself"},
		{[]int{0}, []int{99}, 0, 1, "one plank and another one"},
		{[]int{1, 2}, []int{1, 2}, 2, 0, "two planks and themselves"},
		{[]int{1, 2}, []int{2, 1}, 2, 0, "the same two at other places"},
		{[]int{1, 2}, []int{3, 2}, 1, 1, "the promise's first and second ship"},
		{[]int{3, 2}, []int{3, 4}, 1, 1, "its second and third one"},
		{[]int{1, 2}, []int{3, 4}, 0, 2, "its first and third one"},
		{[]int{1, 2}, []int{2, 3}, 1, 1, "one in common, at another place"},
		{[]int{1, 2, 3}, []int{3, 4}, 1, -1, "three and two planks with one in common"},
		{[]int{1}, []int{1, 2}, 1, -1, "one plank, and another one with it"},
		{[]int{7}, []int{1, 2, 3, 4, 5, 6}, 0, -1, "one and six planks with nothing in common"},
		{[]int{1, 2, 3, 4, 5}, []int{0, 1, 2, 3, 4, 5}, 5, -1, "a ship and the same with one plank more"},
		{[]int{1, 2, 3}, []int{3, 1, 2}, 3, 0, "the same three around"},
		{[]int{1, 2, 3}, []int{4, 5, 1}, 1, 2, "three of which two are others"},
		{[]int{0, 1, 2, 3, 4, 5}, []int{0, 1, 2, 3, 4, 5}, 6, 0, "six planks and themselves"},
		{[]int{0, 1, 2, 3, 4, 5}, []int{5, 4, 3, 2, 1, 0}, 6, 0, "six planks backwards"},
		{[]int{0, 1, 2, 3, 4, 5}, []int{0, 1, 2, 3, 4, 99}, 5, 1, "the last of six is another one"},
		{[]int{0, 1, 2, 3, 4, 5}, []int{99, 1, 2, 3, 4, 5}, 5, 1, "the first of six is another one"},
		{[]int{0, 1, 2, 3, 4, 5}, []int{3, 4, 5, 6, 7, 8}, 3, 3, "half of six, at other places"},
		{[]int{0, 1, 2, 3, 4, 5}, []int{95, 96, 0, 97, 98, 99}, 1, 5, "one of six"},
		{[]int{0, 1, 2, 3, 4, 5}, []int{94, 95, 96, 97, 98, 99}, 0, 6, "six with nothing in common"},
	}
}

// butTold returns the least number but for which two ships are mostly the same, and -1 if there is none. Each greater number, and no lesser one, is to be so, too.
func butTold(t *testing.T, a, b []int) int {
	t.Helper()
	tried := append(numbersFrom(0, 8), 20, 99, 100, power(32), math.MaxInt)
	first := slices.IndexFunc(tried, func(but int) bool { return impl.MostlyOk(a, b, but) })
	if first < 0 {
		first = len(tried)
	}
	for _, but := range tried[first:] {
		if !impl.MostlyOk(a, b, but) {
			t.Errorf("MostlyOk(%v, %v, %d) is false, and was true of a lesser number", a, b, but)
		}
	}
	for _, but := range []int{-1, -2, -6, -7, -power(32), math.MinInt, math.MinInt + 1} {
		if impl.MostlyOk(a, b, but) {
			t.Errorf("MostlyOk(%v, %v, %d) is true", a, b, but)
		}
	}
	if first == len(tried) {
		return -1
	}
	return tried[first]
}

func TestCommonRows(t *testing.T) {
	for _, r := range commonRows() {
		if !isShip(r.a) || !isShip(r.b) || len(commonOf(r.a, r.b)) != r.common {
			t.Errorf("%s: the row is wrong", r.name)
		}
		if x, y := impl.CommonIn(r.a, r.b), impl.CommonIn(r.b, r.a); x != r.common || y != r.common {
			t.Errorf("%s: %v and %v have %d in common, and exchanged %d", r.name, r.a, r.b, x, y)
		}
		if x, y := butTold(t, r.a, r.b), butTold(t, r.b, r.a); x != r.but || y != r.but {
			t.Errorf("%s: %v and %v are mostly the same but for %d, and exchanged for %d", r.name, r.a, r.b, x, y)
		}
	}
}

func TestShipsAsDefined(t *testing.T) {
	told := map[bool]int{}
	of := func(ship []int) {
		if impl.ShipOk(ship) != isShip(ship) {
			t.Errorf("ShipOk(%v) is %v", ship, !isShip(ship))
		}
		told[isShip(ship)]++
	}
	some := []int{-1, 0, 1, 98, 99, 100}
	for length := range 6 {
		lists(length, 0, len(some)-1, func(numbers []int) {
			ship := make([]int, 0, length)
			for _, number := range numbers {
				ship = append(ship, some[number])
			}
			of(ship)
		})
	}
	for length := range 9 {
		lists(length, 94, 96, of)
		of(numbersFrom(0, length-1))
		of(numbersFrom(100-length, 99))
	}
	for _, ship := range ships() {
		of(ship)
	}
	if told[true] == 0 || told[false] == 0 {
		t.Error("ships, and what is none:", told)
	}
}

func TestCommonAsDefined(t *testing.T) {
	for _, a := range ships() {
		for _, b := range ships() {
			common, but := len(commonOf(a, b)), -1
			if len(a) == len(b) {
				but = len(a) - common
			}
			if got := impl.CommonIn(a, b); got != common {
				t.Errorf("CommonIn(%v, %v) is %d", a, b, got)
			}
			if got := butTold(t, a, b); got != but {
				t.Errorf("%v and %v are mostly the same but for %d, not %d", a, b, got, but)
			}
		}
	}
}

type changeRow struct {
	ship  []int
	c     impl.Change
	after []int // as before if it cannot be done
	name  string
}

func changeRows() []changeRow {
	six := []int{0, 1, 2, 3, 4, 5}
	return []changeRow{
		{[]int{1, 2}, impl.Change{Place: 1, Plank: 7}, []int{1, 7}, "the last of two"},
		{[]int{1, 2}, impl.Change{Place: 0, Plank: 7}, []int{7, 2}, "the first of two"},
		{[]int{0}, impl.Change{Place: 0, Plank: 99}, []int{99}, "one plank, to the last one"},
		{[]int{99}, impl.Change{Place: 0, Plank: 0}, []int{0}, "one plank, to the first one"},
		{six, impl.Change{Place: 0, Plank: 99}, []int{99, 1, 2, 3, 4, 5}, "the first of six"},
		{six, impl.Change{Place: 5, Plank: 6}, []int{0, 1, 2, 3, 4, 6}, "the last of six"},
		{six, impl.Change{Place: 3, Plank: 30}, []int{0, 1, 2, 30, 4, 5}, "one between"},
		{[]int{9, 8, 7}, impl.Change{Place: 1, Plank: 0}, []int{9, 0, 7}, "no order is made"},
		{[]int{1, 2}, impl.Change{Place: 0, Plank: 2}, []int{1, 2}, "it has the plank at another place"},
		{[]int{1, 2}, impl.Change{Place: 0, Plank: 1}, []int{1, 2}, "it has the plank at the place"},
		{six, impl.Change{Place: 0, Plank: 5}, six, "it has the plank at the last place"},
		{six, impl.Change{Place: 5, Plank: 0}, six, "it has the plank at the first place"},
		{[]int{0}, impl.Change{}, []int{0}, "the zero value, for a ship that has the plank 0"},
		{[]int{1}, impl.Change{}, []int{0}, "the zero value, for another ship"},
		{[]int{1, 2}, impl.Change{Place: 2, Plank: 7}, []int{1, 2}, "a place past the end"},
		{six, impl.Change{Place: 6, Plank: 7}, six, "the place that no ship has"},
		{[]int{1, 2}, impl.Change{Place: -1, Plank: 7}, []int{1, 2}, "a place below 0"},
		{[]int{1, 2}, impl.Change{Place: math.MaxInt, Plank: 7}, []int{1, 2}, "the greatest number as a place"},
		{[]int{1, 2}, impl.Change{Place: math.MinInt, Plank: 7}, []int{1, 2}, "the least number as a place"},
		{[]int{1, 2}, impl.Change{Place: 0, Plank: -1}, []int{1, 2}, "a plank below 0"},
		{[]int{1, 2}, impl.Change{Place: 0, Plank: 100}, []int{1, 2}, "a plank past the end"},
		{[]int{1, 2}, impl.Change{Place: 0, Plank: math.MaxInt}, []int{1, 2}, "the greatest number as a plank"},
		{[]int{1, 2}, impl.Change{Place: 0, Plank: math.MinInt}, []int{1, 2}, "the least number as a plank"},
		{[]int{1, 2}, impl.Change{Place: 2, Plank: 1}, []int{1, 2}, "a place past the end, and a plank that it has"},
		{[]int{1, 2}, impl.Change{Place: -1, Plank: -1}, []int{1, 2}, "a place and a plank below 0"},
	}
}

func TestChangeRows(t *testing.T) {
	for _, r := range changeRows() {
		done := !slices.Equal(r.after, r.ship)
		if !isShip(r.ship) || canBeDone(r.ship, r.c) != done {
			t.Errorf("%s: the row is wrong", r.name)
		}
		if got, ok := impl.ChangedOf(r.ship, r.c); ok != done || !slices.Equal(got, r.after) {
			t.Errorf("%s: ChangedOf(%v, %v) is %v and %v", r.name, r.ship, r.c, got, ok)
		}
	}
}

// someChanges has changes to each place, and to some that are not there, of each plank of some ships, of others, and of some that are none.
func someChanges() []impl.Change {
	places := append(numbersFrom(-2, 8), math.MinInt, -power(32), power(32), math.MaxInt)
	planks := append(numbersFrom(-2, 11), 49, 50, 51, 94, 98, 99, 100, 101, 128, math.MinInt, -99, power(32), math.MaxInt)
	return changesOf(places, planks)
}

func TestChangesAsDefined(t *testing.T) {
	for _, ship := range ships() {
		for _, c := range someChanges() {
			want := ship
			if canBeDone(ship, c) {
				want = withPlank(ship, c)
			}
			if got, ok := impl.ChangedOf(ship, c); ok != canBeDone(ship, c) || !slices.Equal(got, want) {
				t.Errorf("ChangedOf(%v, %v) is %v and %v", ship, c, got, ok)
			}
		}
	}
}

type storyRow struct {
	story
	want storyTruth
	name string
}

func storyRows() []storyRow {
	return slices.Concat(quietStoryRows(), shortStoryRows(), backStoryRows())
}

// quietStoryRows has stories in which nothing is done.
func quietStoryRows() []storyRow {
	six := []int{0, 1, 2, 3, 4, 99}
	only := func(ship ...int) storyTruth { return storyTruth{ships: [][]int{ship}} }
	return []storyRow{
		{story{[]int{0}, nil}, only(0), "one plank without changes"},
		{story{[]int{99}, []impl.Change{}}, only(99), "the last plank without changes"},
		{story{six, nil}, only(six...), "six planks without changes"},
		{story{[]int{1, 2}, []impl.Change{{Place: 0, Plank: 1}, {Place: 0, Plank: 2}}}, only(1, 2), "planks that it has"},
		{story{[]int{1, 2}, []impl.Change{{Place: 2, Plank: 7}, {Place: -1, Plank: 7}}}, only(1, 2), "places that are not there"},
		{story{[]int{1, 2}, []impl.Change{{Place: 0, Plank: 100}, {Place: 0, Plank: -1}}}, only(1, 2), "planks that are none"},
		{story{[]int{0}, make([]impl.Change, 20)}, only(0), "twenty changes that cannot be done"},
		{story{six, slices.Repeat([]impl.Change{{Place: 6, Plank: 50}}, 20)}, only(six...), "twenty changes of six planks that cannot be done"},
	}
}

func shortStoryRows() []storyRow {
	two := []int{1, 2}
	return []storyRow{
		{story{[]int{0}, []impl.Change{{Place: 0, Plank: 99}}}, storyTruth{[][]int{{0}, {99}}, []int{0}, true}, "one plank, which is changed"},
		{story{two, []impl.Change{{Place: 0, Plank: 5}}}, storyTruth{[][]int{{1, 2}, {5, 2}}, []int{1}, false}, "fewer changes than planks"},
		{story{two, []impl.Change{{Place: 0, Plank: 5}, {Place: 0, Plank: 6}}}, storyTruth{[][]int{{1, 2}, {5, 2}, {6, 2}}, []int{1, 5}, false}, "as many changes as planks, but at one place"},
		{story{two, []impl.Change{{Place: 0, Plank: 5}, {Place: 0, Plank: 5}, {Place: 1, Plank: 6}}}, storyTruth{[][]int{{1, 2}, {5, 2}, {5, 6}}, []int{1, 2}, true}, "nothing of the first ship is left, and one change cannot be done"},
		{story{two, []impl.Change{{Place: 1, Plank: 6}, {Place: 0, Plank: 5}}}, storyTruth{[][]int{{1, 2}, {1, 6}, {5, 6}}, []int{2, 1}, true}, "the last place first: so is the order of what was taken out"},
		{story{two, []impl.Change{{Place: 3, Plank: 6}, {Place: 1, Plank: 0}, {Place: 0, Plank: 100}, {Place: 0, Plank: 99}}}, storyTruth{[][]int{{1, 2}, {1, 0}, {99, 0}}, []int{2, 1}, true}, "each other change cannot be done"},
		{story{two, []impl.Change{{Place: 0, Plank: 2}, {Place: 1, Plank: 7}, {Place: 0, Plank: 2}}}, storyTruth{[][]int{{1, 2}, {1, 7}, {2, 7}}, []int{2, 1}, true}, "a change that can be done only later, and moves a plank of the first ship"},
		{story{[]int{1, 2, 3}, []impl.Change{{Place: 2, Plank: 9}, {Place: 1, Plank: 8}}}, storyTruth{[][]int{{1, 2, 3}, {1, 2, 9}, {1, 8, 9}}, []int{3, 2}, false}, "all but one plank are changed"},
		{story{[]int{0, 1, 2, 3, 4, 5}, []impl.Change{{Place: 5, Plank: 94}, {Place: 4, Plank: 95}, {Place: 3, Plank: 96}, {Place: 2, Plank: 97}, {Place: 1, Plank: 98}, {Place: 0, Plank: 99}}}, storyTruth{[][]int{{0, 1, 2, 3, 4, 5}, {0, 1, 2, 3, 4, 94}, {0, 1, 2, 3, 95, 94}, {0, 1, 2, 96, 95, 94}, {0, 1, 97, 96, 95, 94}, {0, 98, 97, 96, 95, 94}, {99, 98, 97, 96, 95, 94}}, []int{5, 4, 3, 2, 1, 0}, true}, "six planks from the last to the first one"},
		{story{[]int{0, 1, 2, 3, 4, 5}, []impl.Change{{Place: 0, Plank: 94}, {Place: 1, Plank: 95}, {Place: 2, Plank: 96}, {Place: 3, Plank: 97}, {Place: 4, Plank: 98}}}, storyTruth{[][]int{{0, 1, 2, 3, 4, 5}, {94, 1, 2, 3, 4, 5}, {94, 95, 2, 3, 4, 5}, {94, 95, 96, 3, 4, 5}, {94, 95, 96, 97, 4, 5}, {94, 95, 96, 97, 98, 5}}, []int{0, 1, 2, 3, 4}, false}, "five of six planks"},
	}
}

// backStoryRows has stories in which planks are put back.
func backStoryRows() []storyRow {
	there, back := impl.Change{Place: 0, Plank: 2}, impl.Change{Place: 0, Plank: 1}
	swing := storyTruth{[][]int{{1}}, nil, true}
	for range 10 {
		swing.ships = append(swing.ships, []int{2}, []int{1})
		swing.taken = append(swing.taken, 1, 2)
	}
	return []storyRow{
		{story{[]int{1}, []impl.Change{there, back}}, storyTruth{[][]int{{1}, {2}, {1}}, []int{1, 2}, true}, "a plank is put back: the ship is there, and is built again, too"},
		{story{[]int{1}, []impl.Change{there, back, there}}, storyTruth{[][]int{{1}, {2}, {1}, {2}}, []int{1, 2, 1}, true}, "a plank is taken out more than once"},
		{story{[]int{1}, slices.Repeat([]impl.Change{there, back}, 10)}, swing, "MaxStory changes to and fro"},
		{story{[]int{1, 3}, []impl.Change{there, back}}, storyTruth{[][]int{{1, 3}, {2, 3}, {1, 3}}, []int{1, 2}, false}, "as many changes as planks, and one of them is put back"},
		{story{[]int{1, 3}, []impl.Change{there, back, there, back, there}}, storyTruth{[][]int{{1, 3}, {2, 3}, {1, 3}, {2, 3}, {1, 3}, {2, 3}}, []int{1, 2, 1, 2, 1}, false}, "a plank is taken out again and again, and the other one never"},
		{story{[]int{1, 3}, []impl.Change{there, {Place: 1, Plank: 1}, {Place: 0, Plank: 3}}}, storyTruth{[][]int{{1, 3}, {2, 3}, {2, 1}, {3, 1}}, []int{1, 3, 2}, true}, "both are put back at each other's place"},
		{story{[]int{1, 3}, []impl.Change{{Place: 0, Plank: 3}, there, {Place: 1, Plank: 1}, {Place: 1, Plank: 3}, back}}, storyTruth{[][]int{{1, 3}, {2, 3}, {2, 1}, {2, 3}, {1, 3}}, []int{1, 3, 1, 2}, true}, "all that was taken out is put back"},
	}
}

func TestStoryRows(t *testing.T) {
	for _, r := range storyRows() {
		if want := storyAsDefined(r.ship, r.list); !isShip(r.ship) || !want.same(r.want) {
			t.Errorf("%s: the row is wrong: %v", r.name, want)
		}
		if got := storyTold(r.ship, r.list); !got.same(r.want) {
			t.Errorf("%s: of %v and %v it is %v, not %v", r.name, r.ship, r.list, got, r.want)
		}
	}
}

func TestStoriesAsDefined(t *testing.T) {
	for _, in := range storiesTold() {
		if want := storyAsDefined(in.ship, in.list); !in.told.same(want) {
			t.Errorf("of %v and %v it is %v, not %v", in.ship, in.list, in.told, want)
		}
	}
}

func TestPromise46(t *testing.T) {
	for plank := -300; plank <= 300; plank++ {
		if impl.ShipOk([]int{plank}) != (plank >= 0 && plank <= 99) {
			t.Error("the plank alone:", plank)
		}
	}
	if impl.MaxPlanks != 6 || impl.ShipOk(numbersFrom(1, 7)) {
		t.Error("seven planks are a ship")
	}
	for _, ship := range ships() {
		for length := len(ship); length > 0; length-- {
			if !impl.ShipOk(ship[:length]) {
				t.Errorf("ShipOk(%v) is false", ship[:length])
			}
		}
		if impl.ShipOk(ship[:0]) {
			t.Error("no planks are a ship")
		}
	}
}

func TestPromise47(t *testing.T) {
	found := map[int]int{} // by how many are common
	for _, a := range ships() {
		for _, same := range orders(a) {
			if x, y := impl.CommonIn(a, same), impl.CommonIn(same, a); x != len(a) || y != len(a) {
				t.Errorf("%v and %v have %d in common, and exchanged %d", a, same, x, y)
			}
		}
		for _, b := range ships() {
			common := impl.CommonIn(a, b)
			if other := impl.CommonIn(b, a); common != other || common < 0 || common > len(a) || common > len(b) {
				t.Errorf("%v and %v have %d in common, and exchanged %d", a, b, common, other)
			}
			found[common]++
		}
	}
	for common := range 7 {
		if found[common] == 0 {
			t.Error("no ships have so many in common:", common)
		}
	}
}

// mostlySums asks of three ships, for each number but for which the first one is mostly the same as the second one, and each but for which this is so to the third one, whether the first one is so to the third one but for both together. It counts those of which the greater one alone is not enough.
func mostlySums(t *testing.T, a, b, c []int, ab, bc []bool) (further int) {
	t.Helper()
	for x := range ab {
		for y := range bc {
			if !ab[x] || !bc[y] {
				continue
			}
			if !impl.MostlyOk(a, c, x+y) {
				t.Errorf("%v, %v and %v: but for %d, %d and both together it does not hold", a, b, c, x, y)
			}
			if !impl.MostlyOk(a, c, max(x, y)) {
				further++
			}
		}
	}
	return further
}

func TestPromise48(t *testing.T) {
	one, two, three := []int{1, 2}, []int{3, 2}, []int{3, 4}
	if !impl.MostlyOk(one, two, 1) || !impl.MostlyOk(two, three, 1) || impl.MostlyOk(one, three, 1) || !impl.MostlyOk(one, three, 2) {
		t.Error("1, 2 is not mostly the same as 3, 2, or this as 3, 4, or 1, 2 is as 3, 4")
	}
	all := ships()
	mostly := make([][][]bool, len(all))
	for i, a := range all {
		mostly[i] = make([][]bool, len(all))
		for j, b := range all {
			mostly[i][j] = make([]bool, 7)
			for but := range mostly[i][j] {
				mostly[i][j][but] = impl.MostlyOk(a, b, but)
				if impl.MostlyOk(b, a, but) != mostly[i][j][but] || i == j && !mostly[i][j][but] {
					t.Errorf("MostlyOk(%v, %v, %d) is %v", a, b, but, mostly[i][j][but])
				}
			}
		}
	}
	further := 0
	for i, a := range all {
		for j, b := range all {
			for k, c := range all {
				further += mostlySums(t, a, b, c, mostly[i][j], mostly[j][k])
			}
		}
	}
	if further == 0 {
		t.Error("it goes on without sums")
	}
}

func TestPromise49(t *testing.T) {
	done, not := 0, 0
	for _, ship := range ships() {
		for _, c := range someChanges() {
			after, ok := impl.ChangedOf(ship, c)
			if !ok {
				if !slices.Equal(after, ship) {
					t.Errorf("ChangedOf(%v, %v) is %v and false", ship, c, after)
				}
				not++
				continue
			}
			if !impl.ShipOk(after) || !impl.MostlyOk(ship, after, 1) || impl.MostlyOk(ship, after, 0) || after[c.Place] != c.Plank {
				t.Fatalf("ChangedOf(%v, %v) is %v", ship, c, after)
			}
			back, ok := impl.ChangedOf(after, impl.Change{Place: c.Place, Plank: ship[c.Place]})
			if !ok || !slices.Equal(back, ship) {
				t.Errorf("ChangedOf(%v, %v) is %v, and put back it is %v", ship, c, after, back)
			}
			done++
		}
	}
	if done == 0 || not == 0 {
		t.Error("done:", done, "and not:", not)
	}
}

func TestPromise50(t *testing.T) {
	found := map[int]int{} // by how many changes were done
	for _, in := range storiesTold() {
		ships := in.told.ships
		if len(ships) < 1 || len(ships) > len(in.list)+1 || !slices.Equal(ships[0], in.ship) {
			t.Fatalf("the story of %v and %v is %v", in.ship, in.list, ships)
		}
		for done, ship := range ships {
			if !impl.ShipOk(ship) || !impl.MostlyOk(ships[0], ship, done) {
				t.Errorf("the story of %v and %v is %v", in.ship, in.list, ships)
			}
			if done > 0 && (!impl.MostlyOk(ships[done-1], ship, 1) || impl.MostlyOk(ships[done-1], ship, 0)) {
				t.Errorf("the story of %v and %v is %v", in.ship, in.list, ships)
			}
		}
		found[len(ships)-1]++
	}
	for done := range 12 {
		if found[done] == 0 {
			t.Error("no story has so many changes that are done:", done)
		}
	}
}

func TestPromise51(t *testing.T) {
	without, twice := 0, 0
	for _, in := range storiesTold() {
		taken := in.told.taken
		if len(taken) != len(in.told.ships)-1 {
			t.Fatalf("of %v and %v the ships are %v, and taken out are %v", in.ship, in.list, in.told.ships, taken)
		}
		for i, plank := range taken {
			before, after := in.told.ships[i], in.told.ships[i+1]
			if place := slices.Index(before, plank); place < 0 || before[place] == after[place] || slices.Contains(after, plank) {
				t.Errorf("of %v and %v the ships are %v, and taken out are %v", in.ship, in.list, in.told.ships, taken)
			}
		}
		for _, plank := range in.ship {
			if !slices.Contains(in.last(), plank) && !slices.Contains(taken, plank) {
				t.Errorf("of %v and %v the plank %d is neither in %v nor in %v", in.ship, in.list, plank, in.last(), taken)
			}
		}
		if len(taken) == 0 {
			without++
		}
		if len(planksOf(taken)) < len(taken) {
			twice++
		}
	}
	if without == 0 || twice == 0 {
		t.Error("without any plank:", without, "and with one more than once:", twice)
	}
}

func TestPromise52(t *testing.T) {
	gone, few, between, back := 0, 0, map[bool]int{}, 0
	for _, in := range storiesTold() {
		again, common := in.told.again, impl.CommonIn(in.ship, in.last())
		switch {
		case common == 0:
			gone++
			if !again {
				t.Errorf("of %v and %v nothing is left, and it is not built again", in.ship, in.list)
			}
		case len(in.list) < len(in.ship), len(in.told.ships)-1 < len(in.ship):
			few++
			if again {
				t.Errorf("of %v and %v there are fewer changes than planks, and it is built again", in.ship, in.list)
			}
		default:
			between[again]++
			if all := len(commonOf(in.ship, in.told.taken)) == len(in.ship); again != all {
				t.Errorf("of %v and %v there are taken out %v, and built again is %v", in.ship, in.list, in.told.taken, again)
			}
			if again && common == len(in.ship) {
				back++
			}
		}
	}
	if gone == 0 || few == 0 || between[true] == 0 || between[false] == 0 || back == 0 {
		t.Error("nothing is left:", gone, "fewer changes:", few, "others:", between, "and all put back:", back)
	}
}

// changesInTurn has so many changes of a ship, all of which can be done: from place to place, of planks that are not in it.
func changesInTurn(ship []int, count int) []impl.Change {
	var list []impl.Change
	for plank := 0; len(list) < count; plank++ {
		if !slices.Contains(ship, plank) {
			list = append(list, impl.Change{Place: len(list) % len(ship), Plank: plank})
		}
	}
	return list
}

// TestStoriesOfMaxStory asks of as many changes as there may be at most, and of one more: also of those that cannot be done.
func TestStoriesOfMaxStory(t *testing.T) {
	if impl.MaxStory != 20 {
		t.Fatal("MaxStory is", impl.MaxStory)
	}
	for _, ship := range ships() {
		for count := range 25 {
			list, undone := changesInTurn(ship, count), slices.Repeat([]impl.Change{{Place: 0, Plank: ship[0]}}, count)
			if count > 20 {
				noStory(t, "more than MaxStory changes", ship, list)
				noStory(t, "more than MaxStory changes that cannot be done", ship, undone)
				noStory(t, "more than MaxStory changes, of which one can be done", ship, append(undone[1:], list[0]))
				continue
			}
			if got := storyTold(ship, list); len(got.ships) != count+1 || len(got.taken) != count || got.again != (count >= len(ship)) || !got.same(storyAsDefined(ship, list)) {
				t.Errorf("of %v and %v it is %v", ship, list, got)
			}
			if got := storyTold(ship, undone); !got.same(storyTruth{ships: [][]int{ship}}) {
				t.Errorf("of %v and %v it is %v", ship, undone, got)
			}
		}
		noStory(t, "many changes", ship, changesInTurn(ship, 90))
	}
}

func noStory(t *testing.T, name string, ship []int, list []impl.Change) {
	t.Helper()
	if got := storyTold(ship, list); len(got.ships) != 0 || len(got.taken) != 0 || got.again {
		t.Errorf("%s: of %v and %v it is %v", name, ship, list, got)
	}
}

func noShip(t *testing.T, name string, ship []int) {
	t.Helper()
	if isShip(ship) || impl.ShipOk(ship) {
		t.Errorf("%s: ShipOk(%v) is true", name, ship)
	}
	for _, other := range [][]int{{0}, {99}, {3, 5}, {0, 1, 2, 3, 4, 5}, ship, nil, {100}, numbersFrom(0, 6)} {
		if x, y := impl.CommonIn(ship, other), impl.CommonIn(other, ship); x != -1 || y != -1 {
			t.Errorf("%s: %v and %v have %d in common, and exchanged %d", name, ship, other, x, y)
		}
		if x, y := butTold(t, ship, other), butTold(t, other, ship); x != -1 || y != -1 {
			t.Errorf("%s: %v and %v are mostly the same but for %d, and exchanged for %d", name, ship, other, x, y)
		}
	}
	for _, c := range []impl.Change{{}, {Place: 0, Plank: 50}, {Place: len(ship) - 1, Plank: 51}, {Place: len(ship), Plank: 52}, {Place: -1, Plank: 53}, {Place: 1, Plank: 100}} {
		if got, ok := impl.ChangedOf(ship, c); ok || len(got) != 0 {
			t.Errorf("%s: ChangedOf(%v, %v) is %v and %v", name, ship, c, got, ok)
		}
		noStory(t, name, ship, []impl.Change{c})
		noStory(t, name, ship, []impl.Change{c, {Place: 0, Plank: 54}})
	}
	for _, count := range []int{0, 1, 20, 21} {
		noStory(t, name, ship, make([]impl.Change, count))
		if len(ship) > 0 {
			noStory(t, name, ship, changesInTurn(ship, count))
		}
	}
}

func TestNoShips(t *testing.T) {
	for name, ship := range noShips() {
		noShip(t, name, ship)
	}
	for length := 7; length <= 20; length++ {
		noShip(t, "more than MaxPlanks", numbersFrom(1, length))
	}
}

// TestShipsButForOnePlank changes one plank of a ship, or puts one to it.
func TestShipsButForOnePlank(t *testing.T) {
	for _, ship := range largeShips() {
		for place, plank := range ship {
			for _, wrong := range []int{-1, -plank - 1, 100, 100 + plank, 127, power(32) + plank, math.MinInt, math.MinInt + plank, math.MaxInt, ship[(place+1)%len(ship)]} {
				noShip(t, "a wrong plank", withPlank(ship, impl.Change{Place: place, Plank: wrong}))
			}
			noShip(t, "a plank twice", append(slices.Clone(ship), plank))
			noShip(t, "a plank twice", append([]int{plank}, ship...))
		}
	}
}

// TestPlanksAreNotKept asks of other ships, and of none, in between.
func TestPlanksAreNotKept(t *testing.T) {
	for _, r := range storyRows() {
		for _, other := range storyRows() {
			storyTold(other.ship, other.list)
			storyTold(nil, other.list)
			impl.ChangedOf(other.ship, impl.Change{Place: 0, Plank: 98})
			impl.CommonIn(other.ship, r.ship)
			if got := storyTold(r.ship, r.list); !got.same(r.want) {
				t.Errorf("%s: it is not as before behind %s: %v", r.name, other.name, got)
			}
		}
	}
}

// TestPlanksOfNow changes a ship and a list of changes between two calls.
func TestPlanksOfNow(t *testing.T) {
	ship, list := make([]int, 0, 6), make([]impl.Change, 0, 20)
	for _, in := range longStories() {
		ship, list = append(ship[:0], in.ship...), append(list[:0], in.list...)
		if got, want := storyTold(ship, list), storyTold(in.ship, in.list); !got.same(want) {
			t.Errorf("of %v and %v it is %v, and was %v", ship, list, got, want)
		}
	}
}

// TestChangedShipsAreNew writes to a result and then to the argument, and asks whether other results are as before.
func TestChangedShipsAreNew(t *testing.T) {
	for _, r := range changeRows() {
		ship := append(slices.Clone(r.ship), 91, 92, 93)[:len(r.ship)]
		first, _ := impl.ChangedOf(ship, r.c)
		second, _ := impl.ChangedOf(ship, r.c)
		overwritten(first)
		third, _ := impl.ChangedOf(ship, r.c)
		if !slices.Equal(ship, r.ship) || !slices.Equal(second, r.after) || !slices.Equal(third, r.after) || !slices.Equal(ship[:len(ship)+3][len(ship):], []int{91, 92, 93}) {
			t.Errorf("%s: of %v it is %v, and then %v", r.name, ship, second, third)
		}
		overwritten(ship)
		if !slices.Equal(second, r.after) {
			t.Errorf("%s: the result is written to with the ship: %v", r.name, second)
		}
	}
}

// allOverwritten writes to all memory of a story.
func allOverwritten(told storyTruth) {
	for _, ship := range told.ships {
		overwritten(ship)
	}
	overwritten(told.taken)
	for i := range told.ships[:cap(told.ships)] {
		told.ships[:cap(told.ships)][i] = nil
	}
}

func TestStoriesAreNew(t *testing.T) {
	for _, r := range storyRows() {
		ship, list := append(slices.Clone(r.ship), 91, 92, 93)[:len(r.ship)], slices.Clone(r.list)
		first, second := storyTold(ship, list), storyTold(ship, list)
		allOverwritten(first)
		if third := storyTold(ship, list); !slices.Equal(ship, r.ship) || !second.same(r.want) || !third.same(r.want) {
			t.Errorf("%s: of %v it is %v, and then %v", r.name, ship, second, third)
		}
		overwritten(ship)
		clear(list)
		if !second.same(r.want) {
			t.Errorf("%s: the story is written to with the arguments: %v", r.name, second)
		}
		for i := range second.ships {
			overwritten(second.ships[i])
			if !slices.EqualFunc(second.ships[i+1:], r.want.ships[i+1:], slices.Equal) {
				t.Errorf("%s: later ships are written to with the ship %d: %v", r.name, i, second.ships)
			}
		}
		third := storyTold(r.ship, r.list)
		for i := len(third.ships) - 1; i >= 0; i-- {
			overwritten(third.ships[i])
			if !slices.EqualFunc(third.ships[:i], r.want.ships[:i], slices.Equal) {
				t.Errorf("%s: earlier ships are written to with the ship %d: %v", r.name, i, third.ships)
			}
		}
	}
}

// samePlanks asks of two ships and lists of changes that are the same, but for what is behind them in memory.
func samePlanks(ship, other []int, list, others []impl.Change) bool {
	if impl.ShipOk(ship) != impl.ShipOk(other) || impl.CommonIn(ship, []int{91, 1}) != impl.CommonIn(other, []int{91, 1}) || impl.MostlyOk(ship, other, 0) != impl.ShipOk(other) {
		return false
	}
	for _, c := range []impl.Change{{Place: 0, Plank: 91}, {Place: len(ship), Plank: 50}, {Place: len(ship) - 1, Plank: 0}} {
		x, done := impl.ChangedOf(ship, c)
		y, also := impl.ChangedOf(other, c)
		if done != also || !slices.Equal(x, y) {
			return false
		}
	}
	return storyTold(ship, list).same(storyTold(other, others))
}

// TestPlanksWriteNothing has other planks and changes in the memory behind those that are given.
func TestPlanksWriteNothing(t *testing.T) {
	given := longStories()
	for _, ship := range noShips() {
		given = append(given, story{ship, []impl.Change{{Place: 0, Plank: 50}}}, story{ship, nil})
	}
	for _, r := range storyRows() {
		given = append(given, r.story, story{r.ship, slices.Repeat([]impl.Change{{Place: 0, Plank: 50}}, 21)})
	}
	for _, in := range given {
		ship, list := append(slices.Clone(in.ship), 91, 92, 93, 94, 95, 96, 97), append(slices.Clone(in.list), changesInTurn([]int{91}, 30)...)
		shipBefore, listBefore := slices.Clone(ship), slices.Clone(list)
		if !samePlanks(ship[:len(in.ship)], in.ship, list[:len(in.list)], in.list) {
			t.Errorf("%v and %v: what follows them is read", in.ship, in.list)
		}
		if !slices.Equal(ship, shipBefore) || !slices.Equal(list, listBefore) {
			t.Fatalf("%v or %v is written to: %v and %v", shipBefore, listBefore, ship, list)
		}
	}
}

package tests

import (
	"math"
	"slices"
	"sync"
	"testing"

	"loop.example/partsandwholes/impl"
)

// touchTruth is what chapter 8 answers of two things of a ground.
type touchTruth struct {
	touch, outside, inside bool
}

type touchRow struct {
	g    []int
	a, b int
	want touchTruth
	name string
}

// growRow is what chapter 8 answers of one thing of a ground.
type growRow struct {
	g               []int
	a               int
	border, grownTo int
	name            string
}

func touchTold(g []int, a, b int) touchTruth {
	return touchTruth{impl.TouchOk(g, a, b), impl.OutsideTouch(g, a, b), impl.InsideOk(g, a, b)}
}

func touchAsDefined(near nearness, a, b []int) touchTruth {
	return touchTruth{near.touch(a, b), near.outside(a, b), near.inside(a, b)}
}

// groundTold has a ground with all that is answered of its things. No thing is the set 0, of which it is asked, too.
type groundTold struct {
	g             []int
	two           [][]touchTruth // by the sets of both
	border, grown []int          // by the set
}

func (told groundTold) all() int {
	return power(len(told.g)) - 1
}

func (told groundTold) things() []int {
	list := make([]int, told.all())
	for i := range list {
		list[i] = i + 1
	}
	return list
}

func (told groundTold) touch(a, b int) bool   { return told.two[a][b].touch }
func (told groundTold) outside(a, b int) bool { return told.two[a][b].outside }
func (told groundTold) inside(a, b int) bool  { return told.two[a][b].inside }

func toldOf(g []int) groundTold {
	told := groundTold{g: g}
	for a := range power(len(g)) {
		var row []touchTruth
		for b := range power(len(g)) {
			row = append(row, touchTold(g, a, b))
		}
		told.two = append(told.two, row)
		told.border = append(told.border, impl.BorderOf(g, a))
		told.grown = append(told.grown, impl.GrownOf(g, a))
	}
	return told
}

func definedOf(g []int) groundTold {
	near, _ := nearnessOf(g)
	told := groundTold{g: g}
	sets := make([][]int, power(len(g)))
	for set := range sets {
		sets[set] = members(set)
	}
	for a := range sets {
		row := make([]touchTruth, len(sets))
		border, grown := -1, -1
		if a > 0 {
			for b := 1; b < len(sets); b++ {
				row[b] = touchAsDefined(near, sets[a], sets[b])
			}
			border, grown = setOf(near.border(sets[a])), setOf(near.grown(sets[a]))
		}
		told.two = append(told.two, row)
		told.border = append(told.border, border)
		told.grown = append(told.grown, grown)
	}
	return told
}

// groundsTold asks but once, for all tests.
var groundsTold = sync.OnceValue(func() []groundTold {
	var all []groundTold
	for _, g := range grounds() {
		all = append(all, toldOf(g))
	}
	return all
})

func touchRows() []touchRow {
	return slices.Concat(smallTouchRows(), lineTouchRows(), largeTouchRows())
}

func smallTouchRows() []touchRow {
	return []touchRow{
		{[]int{0}, 1, 1, touchTruth{true, false, true}, "one place, which is all"},
		{[]int{0, 0}, 1, 2, touchTruth{false, false, false}, "two places that are no neighbours"},
		{[]int{0, 0}, 1, 1, touchTruth{true, false, true}, "a place without neighbours, and itself"},
		{[]int{0, 0}, 2, 3, touchTruth{true, false, true}, "a place without neighbours, and all"},
		{[]int{0, 0}, 3, 2, touchTruth{true, false, false}, "all, and a place without neighbours"},
		{[]int{0, 0}, 3, 3, touchTruth{true, false, true}, "all without neighbours, and itself"},
		{[]int{2, 1}, 1, 2, touchTruth{true, true, false}, "two neighbours"},
		{[]int{2, 1}, 2, 1, touchTruth{true, true, false}, "the same the other way"},
		{[]int{2, 1}, 1, 1, touchTruth{true, false, false}, "a place with a neighbour, and itself"},
		{[]int{2, 1}, 1, 3, touchTruth{true, false, true}, "one of two neighbours in both"},
		{[]int{2, 1}, 3, 1, touchTruth{true, false, false}, "two neighbours, and one of them"},
		{[]int{2, 1}, 3, 3, touchTruth{true, false, true}, "all, and itself"},
		{[]int{0, 4, 2}, 1, 6, touchTruth{false, false, false}, "a place alone, and two neighbours"},
		{[]int{0, 4, 2}, 1, 1, touchTruth{true, false, true}, "a place alone, and itself"},
		{[]int{0, 4, 2}, 6, 6, touchTruth{true, false, true}, "two neighbours beside a place alone, and themselves"},
		{[]int{0, 4, 2}, 3, 4, touchTruth{true, true, false}, "but one of two places is a neighbour"},
		{[]int{0, 4, 2}, 3, 3, touchTruth{true, false, false}, "but one of two places has a neighbour outside"},
		{[]int{2, 1, 8, 4}, 3, 12, touchTruth{false, false, false}, "two pairs of neighbours"},
		{[]int{2, 1, 8, 4}, 5, 10, touchTruth{true, true, false}, "one of each pair, and the other ones"},
		{[]int{2, 1, 8, 4}, 3, 7, touchTruth{true, false, true}, "a pair, and it with another place"},
		{[]int{2, 1, 8, 4}, 7, 7, touchTruth{true, false, false}, "a pair and half of another one"},
		{[]int{18, 5, 10, 20, 9}, 1, 16, touchTruth{true, true, false}, "the first and the last one of a ring"},
		{[]int{18, 5, 10, 20, 9}, 1, 12, touchTruth{false, false, false}, "what is across in a ring"},
		{[]int{18, 5, 10, 20, 9}, 1, 19, touchTruth{true, false, true}, "one of a ring, with both neighbours"},
		{[]int{18, 5, 10, 20, 9}, 1, 3, touchTruth{true, false, false}, "one of a ring, with one neighbour"},
	}
}

// lineTouchRows has rows of four places in line: 0, 1, 2 and 3.
func lineTouchRows() []touchRow {
	g := []int{2, 5, 10, 4}
	return []touchRow{
		{g, 1, 2, touchTruth{true, true, false}, "the first and the second one"},
		{g, 1, 4, touchTruth{false, false, false}, "the first and the third one"},
		{g, 8, 1, touchTruth{false, false, false}, "the last and the first one"},
		{g, 8, 4, touchTruth{true, true, false}, "the last one and the one before"},
		{g, 3, 12, touchTruth{true, true, false}, "two halves"},
		{g, 12, 3, touchTruth{true, true, false}, "two halves the other way"},
		{g, 3, 8, touchTruth{false, false, false}, "a half and an end"},
		{g, 3, 6, touchTruth{true, false, false}, "two with a common place"},
		{g, 5, 10, touchTruth{true, true, false}, "each other one, and the others"},
		{g, 9, 6, touchTruth{true, true, false}, "both ends, and what is between"},
		{g, 9, 2, touchTruth{true, true, false}, "both ends, and a neighbour of one of them"},
		{g, 1, 3, touchTruth{true, false, true}, "an end inside a half"},
		{g, 2, 3, touchTruth{true, false, false}, "the other place of the half is on its border"},
		{g, 2, 7, touchTruth{true, false, true}, "a place with both neighbours"},
		{g, 2, 6, touchTruth{true, false, false}, "a place with one of two neighbours"},
		{g, 2, 5, touchTruth{true, true, false}, "a place between its neighbours"},
		{g, 3, 7, touchTruth{true, false, true}, "a half inside three"},
		{g, 3, 3, touchTruth{true, false, false}, "a half, and itself"},
		{g, 7, 15, touchTruth{true, false, true}, "three inside all"},
		{g, 9, 13, touchTruth{true, false, false}, "both ends, of which one is inside"},
		{g, 9, 15, touchTruth{true, false, true}, "both ends inside all"},
		{g, 15, 15, touchTruth{true, false, true}, "all inside itself"},
		{g, 15, 7, touchTruth{true, false, false}, "all, and three of it"},
		{g, 7, 3, touchTruth{true, false, false}, "three, and two of them"},
	}
}

func largeTouchRows() []touchRow {
	alone, each, ring := groundWithout(7), groundOfEach(7), groundInRing(7)
	star := []int{126, 1, 1, 1, 1, 1, 1}
	long := []int{2, 5, 10, 20, 40, 80, 32}
	return []touchRow{
		{alone, 1, 126, touchTruth{false, false, false}, "seven without neighbours: one and all others"},
		{alone, 85, 42, touchTruth{false, false, false}, "seven without neighbours: even ones and odd ones"},
		{alone, 64, 64, touchTruth{true, false, true}, "seven without neighbours: the last one"},
		{alone, 85, 127, touchTruth{true, false, true}, "seven without neighbours: even ones inside all"},
		{alone, 85, 64, touchTruth{true, false, false}, "seven without neighbours: even ones and one of them"},
		{each, 1, 64, touchTruth{true, true, false}, "seven neighbours: the first and the last one"},
		{each, 64, 63, touchTruth{true, true, false}, "seven neighbours: the last one and all others"},
		{each, 63, 63, touchTruth{true, false, false}, "seven neighbours: all but one"},
		{each, 1, 63, touchTruth{true, false, false}, "seven neighbours: one, and all but one"},
		{each, 1, 127, touchTruth{true, false, true}, "seven neighbours: one inside all"},
		{each, 127, 127, touchTruth{true, false, true}, "seven neighbours: all inside itself"},
		{ring, 64, 1, touchTruth{true, true, false}, "seven in a ring: the last and the first one"},
		{ring, 64, 97, touchTruth{true, false, true}, "seven in a ring: the last one with both neighbours"},
		{ring, 64, 96, touchTruth{true, false, false}, "seven in a ring: the last one with one neighbour"},
		{ring, 3, 48, touchTruth{false, false, false}, "seven in a ring: two and two"},
		{star, 2, 4, touchTruth{false, false, false}, "around the first: two others"},
		{star, 42, 84, touchTruth{false, false, false}, "around the first: odd ones and even ones"},
		{star, 126, 1, touchTruth{true, true, false}, "around the first: all others and it"},
		{star, 64, 65, touchTruth{true, false, true}, "around the first: the last one with it"},
		{star, 1, 63, touchTruth{true, false, false}, "around the first: it without the last one"},
		{star, 126, 126, touchTruth{true, false, false}, "around the first: all but it"},
		{long, 7, 112, touchTruth{false, false, false}, "seven in line: three and three, one between"},
		{long, 7, 120, touchTruth{true, true, false}, "seven in line: three and four"},
		{long, 28, 62, touchTruth{true, false, true}, "seven in line: three inside five"},
		{long, 28, 60, touchTruth{true, false, false}, "seven in line: three on the border of four"},
		{long, 64, 96, touchTruth{true, false, true}, "seven in line: an end inside two"},
	}
}

func growRows() []growRow {
	line, ring, pairs := []int{2, 5, 10, 4}, []int{18, 5, 10, 20, 9}, []int{2, 1, 8, 4}
	alone, each := groundWithout(7), groundOfEach(7)
	star := []int{126, 1, 1, 1, 1, 1, 1}
	long := []int{2, 5, 10, 20, 40, 80, 32}
	return []growRow{
		{[]int{0}, 1, 0, 1, "one place, which is all"},
		{[]int{0, 0}, 1, 0, 1, "a place without neighbours"},
		{[]int{0, 0}, 3, 0, 3, "two places without neighbours"},
		{[]int{2, 1}, 1, 1, 3, "one of two neighbours"},
		{[]int{2, 1}, 3, 0, 3, "both neighbours"},
		{[]int{0, 4, 2}, 1, 0, 1, "a place alone"},
		{[]int{0, 4, 2}, 3, 2, 7, "a place alone and one of two neighbours"},
		{[]int{0, 4, 2}, 6, 0, 6, "two neighbours beside a place alone"},
		{line, 1, 1, 3, "an end of a line"},
		{line, 2, 2, 7, "a place between two"},
		{line, 3, 2, 7, "a half of a line"},
		{line, 6, 6, 15, "what is between the ends"},
		{line, 7, 4, 15, "all but an end"},
		{line, 9, 9, 15, "both ends"},
		{line, 5, 5, 15, "each other place"},
		{line, 13, 5, 15, "all but one between two others"},
		{line, 15, 0, 15, "all of a line"},
		{ring, 1, 1, 19, "one of a ring"},
		{ring, 19, 18, 31, "one of a ring, with both neighbours"},
		{ring, 27, 10, 31, "all of a ring but one"},
		{ring, 31, 0, 31, "all of a ring"},
		{pairs, 3, 0, 3, "a pair"},
		{pairs, 5, 5, 15, "one of each pair"},
		{pairs, 7, 4, 15, "a pair and half of another one"},
		{alone, 85, 0, 85, "seven without neighbours: even ones"},
		{alone, 64, 0, 64, "seven without neighbours: the last one"},
		{alone, 127, 0, 127, "seven without neighbours: all"},
		{each, 1, 1, 127, "seven neighbours: one"},
		{each, 63, 63, 127, "seven neighbours: all but one"},
		{each, 127, 0, 127, "seven neighbours: all"},
		{star, 1, 1, 127, "around the first: it"},
		{star, 2, 2, 3, "around the first: another one"},
		{star, 63, 1, 127, "around the first: all but the last one"},
		{star, 126, 126, 127, "around the first: all but it"},
		{long, 28, 20, 62, "seven in line: three between"},
		{long, 63, 32, 127, "seven in line: all but the last one"},
		{long, 64, 64, 96, "seven in line: the last one"},
		{long, 85, 85, 127, "seven in line: even ones"},
	}
}

func TestMaxPlaces(t *testing.T) {
	if impl.MaxPlaces != 7 {
		t.Fatal(impl.MaxPlaces)
	}
}

func TestTouchRows(t *testing.T) {
	for _, r := range touchRows() {
		near, _ := nearnessOf(r.g)
		if !isGround(r.g) || touchAsDefined(near, members(r.a), members(r.b)) != r.want {
			t.Errorf("%s: the row of %v, %d and %d is wrong", r.name, r.g, r.a, r.b)
		}
		if got := touchTold(r.g, r.a, r.b); got != r.want {
			t.Errorf("%s: of %v, %d and %d it is %v, not %v", r.name, r.g, r.a, r.b, got, r.want)
		}
	}
}

func TestGrowRows(t *testing.T) {
	for _, r := range growRows() {
		near, _ := nearnessOf(r.g)
		if !isGround(r.g) || setOf(near.border(members(r.a))) != r.border || setOf(near.grown(members(r.a))) != r.grownTo {
			t.Errorf("%s: the row of %v and %d is wrong", r.name, r.g, r.a)
		}
		if got := impl.BorderOf(r.g, r.a); got != r.border {
			t.Errorf("%s: BorderOf(%v, %d) is %d, not %d", r.name, r.g, r.a, got, r.border)
		}
		if got := impl.GrownOf(r.g, r.a); got != r.grownTo {
			t.Errorf("%s: GrownOf(%v, %d) is %d, not %d", r.name, r.g, r.a, got, r.grownTo)
		}
	}
}

// TestGroundOkAsDefined asks of all lists of up to four sets, of which some of up to three sets have numbers of other places.
func TestGroundOkAsDefined(t *testing.T) {
	found := make([]int, 5) // by how many places they have
	ask := func(g []int) {
		got := impl.GroundOk(g)
		if got != isGround(g) {
			t.Errorf("GroundOk(%v) is %v", g, got)
		}
		if got {
			found[len(g)]++
		}
	}
	for n := range 4 {
		lists(n, -2, power(n)+1, ask)
	}
	lists(4, 0, 15, ask)
	if !slices.Equal(found, []int{0, 1, 2, 8, 64}) {
		t.Error("grounds of so many places:", found)
	}
}

// TestGroundOkOfManyPlaces takes each number from a set of neighbours or puts it to it.
func TestGroundOkOfManyPlaces(t *testing.T) {
	for _, g := range largeGrounds() {
		if !isGround(g) || !impl.GroundOk(g) {
			t.Errorf("%v is no ground", g)
		}
		for p, set := range g {
			for q := range 9 {
				other := slices.Clone(g)
				other[p] += power(q)
				if inSet(set, q) {
					other[p] = set - power(q)
				}
				if isGround(other) || impl.GroundOk(other) {
					t.Errorf("%v is a ground", other)
				}
			}
		}
	}
}

func TestThingOkAsDefined(t *testing.T) {
	for _, g := range grounds() {
		for set := -3; set <= 260; set++ {
			if got := impl.ThingOk(g, set); got != (set >= 1 && set < power(len(g))) {
				t.Errorf("ThingOk(%v, %d) is %v", g, set, got)
			}
		}
	}
}

func TestTouchingAsDefined(t *testing.T) {
	for _, told := range groundsTold() {
		want := definedOf(told.g)
		if !slices.EqualFunc(told.two, want.two, slices.Equal) {
			t.Errorf("%v: what touches, or is inside, is %v, not %v", told.g, told.two, want.two)
		}
		if !slices.Equal(told.border, want.border) {
			t.Errorf("%v: the borders are %v, not %v", told.g, told.border, want.border)
		}
		if !slices.Equal(told.grown, want.grown) {
			t.Errorf("%v: what is grown is %v, not %v", told.g, told.grown, want.grown)
		}
	}
}

// withoutLast has a ground without its last place, and without this as a neighbour.
func withoutLast(g []int) []int {
	last := len(g) - 1
	var less []int
	for _, set := range g[:last] {
		if inSet(set, last) {
			set -= power(last)
		}
		less = append(less, set)
	}
	return less
}

func TestPromise34(t *testing.T) {
	for set := -300; set <= 300; set++ {
		if impl.GroundOk([]int{set}) != (set == 0) {
			t.Errorf("GroundOk of one place with %d as neighbours", set)
		}
	}
	all := grounds()
	for set := range power(15) {
		all = append(all, groundOfPairs(6, set))
	}
	for _, g := range all {
		for ; len(g) > 1; g = withoutLast(g) {
			less := withoutLast(g)
			if !impl.GroundOk(g) || !impl.GroundOk(less) {
				t.Errorf("%v or %v, which is it without its last place, is no ground", g, less)
			}
			if neighbour := inSet(togetherOf(g), len(g)-1); neighbour && impl.GroundOk(g[:len(g)-1]) {
				t.Errorf("%v is a ground, with a neighbour that is not there", g[:len(g)-1])
			}
		}
	}
}

func TestPromise35(t *testing.T) {
	for _, g := range grounds() {
		all := power(len(g)) - 1
		if !impl.ThingOk(g, all) {
			t.Errorf("%v: all places are no thing", g)
		}
		for set := 1; set <= all; set++ {
			for p := range g {
				if !impl.ThingOk(g, set) || !impl.ThingOk(g, power(p)) || !impl.ThingOk(g, both(set, power(p))) {
					t.Errorf("%v: %d is no thing with the place %d", g, set, p)
				}
			}
		}
	}
	for _, r := range touchRows() {
		if !impl.ThingOk(r.g, both(r.a, r.b)) {
			t.Errorf("%s: %d and %d are no thing together", r.name, r.a, r.b)
		}
	}
}

func TestPromise36(t *testing.T) {
	some, none := 0, 0
	for _, told := range groundsTold() {
		for _, a := range told.things() {
			if !told.touch(a, a) {
				t.Errorf("%v: %d does not touch itself", told.g, a)
			}
			for _, b := range told.things() {
				if told.touch(a, b) != told.touch(b, a) {
					t.Errorf("%v: %d and %d touch one way", told.g, a, b)
				}
				if !told.touch(a, b) {
					none++
					continue
				}
				some++
				for p := range told.g {
					if !told.touch(a|1<<p, b) || !told.touch(a, b|1<<p) {
						t.Errorf("%v: %d and %d touch, and with the place %d they do not", told.g, a, b, p)
					}
				}
			}
		}
	}
	if some == 0 || none == 0 {
		t.Error("touch:", some, "and not:", none)
	}
}

// outsideByPlaces asks whether some place of the one touches some place of the other one from outside.
func (told groundTold) outsideByPlaces(a, b int) bool {
	for p := range told.g {
		for q := range told.g {
			if a>>p%2 == 1 && b>>q%2 == 1 && told.outside(1<<p, 1<<q) {
				return true
			}
		}
	}
	return false
}

func TestPromise37(t *testing.T) {
	some, apart := 0, 0
	for _, told := range groundsTold() {
		for _, a := range told.things() {
			for _, b := range told.things() {
				got := told.outside(a, b)
				if got != told.outside(b, a) {
					t.Errorf("%v: %d and %d touch from outside one way", told.g, a, b)
				}
				if a&b != 0 && got {
					t.Errorf("%v: %d and %d have a common place, and touch from outside", told.g, a, b)
				}
				if got != (a&b == 0 && told.outsideByPlaces(a, b)) || got != (a&b == 0 && told.touch(a, b)) {
					t.Errorf("%v: OutsideTouch of %d and %d is %v", told.g, a, b, got)
				}
				if got {
					some++
				} else if a&b == 0 {
					apart++
				}
			}
		}
		for p, set := range told.g {
			for q := range told.g {
				if told.outside(1<<p, 1<<q) != inSet(set, q) {
					t.Errorf("%v: OutsideTouch of the places %d and %d is %v", told.g, p, q, told.outside(1<<p, 1<<q))
				}
			}
		}
	}
	if some == 0 || apart == 0 {
		t.Error("from outside:", some, "and not:", apart)
	}
}

// touchesOutside asks whether a thing touches one that has no place of another one.
func (told groundTold) touchesOutside(a, b int) bool {
	for _, c := range told.things() {
		if c&b == 0 && told.touch(a, c) {
			return true
		}
	}
	return false
}

func TestPromise38(t *testing.T) {
	within := 0
	for _, told := range groundsTold() {
		for _, b := range told.things() {
			var inside []int
			for _, a := range told.things() {
				got := told.inside(a, b)
				if got == told.touchesOutside(a, b) {
					t.Errorf("%v: InsideOk of %d and %d is %v", told.g, a, b, got)
				}
				if !got {
					continue
				}
				inside = append(inside, a)
				for p := range told.g {
					if !told.inside(a, b|1<<p) {
						t.Errorf("%v: %d is inside %d, and not with the place %d put to it", told.g, a, b, p)
					}
				}
			}
			for _, a := range inside {
				for _, c := range inside {
					if !told.inside(a|c, b) {
						t.Errorf("%v: %d and %d are inside %d, and not together", told.g, a, c, b)
					}
				}
				if a != b {
					within++
				}
			}
		}
	}
	if within == 0 {
		t.Error("nothing is inside another thing")
	}
}

func TestPromise39(t *testing.T) {
	without, whole, some := 0, 0, 0 // by how much of the thing is its border
	for _, told := range groundsTold() {
		for _, a := range told.things() {
			border := told.border[a]
			if border < 0 || border&^a != 0 {
				t.Fatalf("%v: BorderOf %d is %d", told.g, a, border)
			}
			if rest := a &^ border; rest != 0 && !told.inside(rest, a) {
				t.Errorf("%v: BorderOf %d is %d, and what else it has is not inside it", told.g, a, border)
			}
			if (border == 0) != told.inside(a, a) {
				t.Errorf("%v: BorderOf %d is %d", told.g, a, border)
			}
			for p := range told.g {
				if border>>p%2 == 1 && told.inside(1<<p, a) {
					t.Errorf("%v: BorderOf %d is %d, and its place %d is inside", told.g, a, border, p)
				}
			}
			switch border {
			case 0:
				without++
			case a:
				whole++
			default:
				some++
			}
		}
		if told.border[told.all()] != 0 {
			t.Errorf("%v: all places have the border %d", told.g, told.border[told.all()])
		}
	}
	if without == 0 || whole == 0 || some == 0 {
		t.Error("without a border:", without, "all of it is border:", whole, "and some of it:", some)
	}
}

func TestPromise40(t *testing.T) {
	same, more := 0, 0
	for _, told := range groundsTold() {
		for _, a := range told.things() {
			grown := told.grown[a]
			if grown < 0 || grown > told.all() || !told.inside(a, grown) {
				t.Fatalf("%v: GrownOf %d is %d", told.g, a, grown)
			}
			for p := range told.g {
				if told.touch(1<<p, a) != inSet(grown, p) {
					t.Errorf("%v: GrownOf %d is %d, with the place %d or without it", told.g, a, grown, p)
				}
			}
			for _, b := range told.things() {
				if told.touch(b, a) != (b&grown != 0) {
					t.Errorf("%v: GrownOf %d is %d, and TouchOk of %d is %v", told.g, a, grown, b, told.touch(b, a))
				}
				if told.grown[a|b] != grown|told.grown[b] {
					t.Errorf("%v: GrownOf %d and %d together is %d", told.g, a, b, told.grown[a|b])
				}
			}
			if grown == a {
				same++
			} else {
				more++
			}
		}
	}
	if same == 0 || more == 0 {
		t.Error("as before:", same, "and more:", more)
	}
}

func TestGroundsWithoutNeighbours(t *testing.T) {
	for n := 1; n <= 7; n++ {
		g := groundWithout(n)
		for a := 1; a < power(n); a++ {
			if border, grown := impl.BorderOf(g, a), impl.GrownOf(g, a); border != 0 || grown != a {
				t.Errorf("%v: of %d the border is %d, and it is grown to %d", g, a, border, grown)
			}
			for b := 1; b < power(n); b++ {
				if got, want := touchTold(g, a, b), (touchTruth{a&b != 0, false, a&^b == 0}); got != want {
					t.Errorf("%v: of %d and %d it is %v", g, a, b, got)
				}
			}
		}
	}
}

func TestGroundsOfEach(t *testing.T) {
	for n := 1; n <= 7; n++ {
		g, all := groundOfEach(n), power(n)-1
		for a := 1; a <= all; a++ {
			border := a
			if a == all {
				border = 0
			}
			if got, grown := impl.BorderOf(g, a), impl.GrownOf(g, a); got != border || grown != all {
				t.Errorf("%v: of %d the border is %d, and it is grown to %d", g, a, got, grown)
			}
			for b := 1; b <= all; b++ {
				if got, want := touchTold(g, a, b), (touchTruth{true, a&b == 0, b == all}); got != want {
					t.Errorf("%v: of %d and %d it is %v", g, a, b, got)
				}
			}
		}
	}
}

// noTouch asks of two sets of which one at least is no thing, and of others, of which none is one, each alone.
func noTouch(t *testing.T, name string, g []int, a, b int, others ...int) {
	t.Helper()
	if got := touchTold(g, a, b); got != (touchTruth{}) {
		t.Errorf("%s: of %v, %d and %d it is %v", name, g, a, b, got)
	}
	for _, set := range others {
		if impl.ThingOk(g, set) {
			t.Errorf("%s: ThingOk(%v, %d) is true", name, g, set)
		}
		if got := impl.BorderOf(g, set); got != -1 {
			t.Errorf("%s: BorderOf(%v, %d) is %d", name, g, set, got)
		}
		if got := impl.GrownOf(g, set); got != -1 {
			t.Errorf("%s: GrownOf(%v, %d) is %d", name, g, set, got)
		}
		noPieces(t, name, g, set)
	}
}

// noGround asks of sets, too, that would be things, were it a ground.
func noGround(t *testing.T, name string, g []int) {
	t.Helper()
	if impl.GroundOk(g) {
		t.Errorf("%s: GroundOk(%v) is true", name, g)
	}
	sets := []int{0, 1, 2, 3, 4, 5, 7, 64, 127, 128, 255, power(40), power(62), -1, -2, math.MinInt, math.MinInt + 1, math.MaxInt}
	for _, a := range sets {
		for _, b := range sets {
			noTouch(t, name, g, a, b, a)
		}
	}
}

func TestNoGroundsAreRefused(t *testing.T) {
	for name, g := range noGrounds() {
		if isGround(g) {
			t.Errorf("%s: %v is one", name, g)
		}
		noGround(t, name, g)
	}
}

// TestGroundsButForOneSet makes one set of neighbours wrong.
func TestGroundsButForOneSet(t *testing.T) {
	for n := 1; n <= 7; n++ {
		for name, g := range groundShapes(n) {
			for p, set := range g {
				wrong := []int{-1, -set - 1, set + power(p), set + power(n), set + 128, power(32) + set, power(62) + set, math.MinInt + set, math.MaxInt}
				for q := range g {
					if inSet(set, q) {
						wrong = append(wrong, set-power(q))
					}
				}
				for _, other := range wrong {
					changed := slices.Clone(g)
					changed[p] = other
					if isGround(changed) {
						t.Errorf("%s: %v is a ground", name, changed)
					}
					noGround(t, name, changed)
				}
			}
		}
	}
}

// TestNoThingsOfGrounds asks of each such set alone, and together with each thing, at both places.
func TestNoThingsOfGrounds(t *testing.T) {
	for n := 1; n <= 7; n++ {
		for name, g := range groundShapes(n) {
			for _, none := range noSets(n) {
				noTouch(t, name, g, none, none, none)
				noTouch(t, name, g, none, 0)
				noTouch(t, name, g, 0, none)
				for thing := 1; thing < power(n); thing++ {
					noTouch(t, name, g, none, thing)
					noTouch(t, name, g, thing, none)
				}
			}
		}
	}
}

// TestGroundsAreNotKept asks of other grounds, and of none, in between.
func TestGroundsAreNotKept(t *testing.T) {
	for _, r := range growRows() {
		for _, other := range touchRows() {
			before := touchTold(other.g, other.a, other.b)
			impl.GroundOk(nil)
			impl.GrownOf([]int{1}, 1)
			if impl.BorderOf(r.g, r.a) != r.border || impl.GrownOf(r.g, r.a) != r.grownTo {
				t.Errorf("%s: it is not as before behind %s", r.name, other.name)
			}
			if got := touchTold(other.g, other.a, other.b); got != before || got != other.want {
				t.Errorf("%s: it is not as before behind %s", other.name, r.name)
			}
		}
	}
}

// TestTouchingReadsTheGroundOfNow changes a ground between two calls.
func TestTouchingReadsTheGroundOfNow(t *testing.T) {
	g := groundWithout(7)
	for _, other := range largeGrounds() {
		if len(other) != len(g) {
			continue
		}
		copy(g, other)
		for set := 1; set <= 127; set++ {
			if impl.GrownOf(g, set) != impl.GrownOf(other, set) || impl.BorderOf(g, set) != impl.BorderOf(other, set) {
				t.Errorf("of %v it is not as of %v, with %d", g, other, set)
			}
		}
	}
}

// writesNothing asks of each ground, and of what is none, with other numbers in the memory behind it, whether it is the same as without these.
func writesNothing(t *testing.T, same func(short, g []int, set int) bool) {
	t.Helper()
	given := grounds()
	for _, g := range noGrounds() {
		given = append(given, g)
	}
	for _, g := range given {
		roomy := append(slices.Clone(g), 91, 92, 93, 94, 95, 96, 97)
		before := slices.Clone(roomy)
		for _, set := range []int{1, 2, 3, 5, 7, 64, 127, 128, -1} {
			if !same(roomy[:len(g)], g, set) {
				t.Errorf("%v: what follows it is read", g)
			}
		}
		if !slices.Equal(roomy, before) {
			t.Fatalf("%v is written to: %v", before, roomy)
		}
	}
}

func TestTouchingWritesNothing(t *testing.T) {
	writesNothing(t, func(short, g []int, set int) bool {
		return impl.GroundOk(short) == impl.GroundOk(g) && impl.ThingOk(short, set) == impl.ThingOk(g, set) && touchTold(short, set, 1) == touchTold(g, set, 1) &&
			impl.BorderOf(short, set) == impl.BorderOf(g, set) && impl.GrownOf(short, set) == impl.GrownOf(g, set)
	})
}

package tests

import (
	"maps"
	"math"
	"slices"

	"loop.example/partsandwholes/impl"
)

// isShip asks each sentence of the definition of its own.
func isShip(ship []int) bool {
	few := len(ship) >= 1 && len(ship) <= 6
	different := len(planksOf(ship)) == len(ship)
	others := slices.ContainsFunc(ship, func(plank int) bool { return plank < 0 || plank > 99 })
	return few && different && !others
}

// planksOf has true for each plank. The tests judge the program by it, and not by searches in lists.
func planksOf(ship []int) map[int]bool {
	planks := map[int]bool{}
	for _, plank := range ship {
		planks[plank] = true
	}
	return planks
}

// commonOf has the planks that are in both lists, in ascending order.
func commonOf(a, b []int) []int {
	in := planksOf(b)
	common := slices.Sorted(maps.Keys(planksOf(a)))
	return slices.DeleteFunc(common, func(plank int) bool { return !in[plank] })
}

func canBeDone(ship []int, c impl.Change) bool {
	there := c.Place >= 0 && c.Place < len(ship)
	plank := c.Plank >= 0 && c.Plank <= 99
	return there && plank && !planksOf(ship)[c.Plank]
}

// withPlank puts the plank between what is ahead of the place and what is behind it.
func withPlank(ship []int, c impl.Change) []int {
	return slices.Concat(ship[:c.Place], []int{c.Plank}, ship[c.Place+1:])
}

// storyTruth is what chapter 10 answers of a story.
type storyTruth struct {
	ships [][]int
	taken []int
	again bool
}

func (told storyTruth) same(other storyTruth) bool {
	return slices.EqualFunc(told.ships, other.ships, slices.Equal) && slices.Equal(told.taken, other.taken) && told.again == other.again
}

func storyTold(ship []int, list []impl.Change) storyTruth {
	return storyTruth{impl.StoryOf(ship, list), impl.TakenOut(ship, list), impl.BuiltAgain(ship, list)}
}

// storyAsDefined begins with the last change: what is told before it is a story of its own.
func storyAsDefined(ship []int, list []impl.Change) storyTruth {
	if len(list) == 0 {
		return storyTruth{ships: [][]int{slices.Clone(ship)}}
	}
	last := list[len(list)-1]
	truth := storyAsDefined(ship, list[:len(list)-1])
	before := truth.ships[len(truth.ships)-1]
	if canBeDone(before, last) {
		truth.ships = append(truth.ships, withPlank(before, last))
		truth.taken = append(truth.taken, before[last.Place])
		truth.again = len(commonOf(ship, truth.taken)) == len(ship)
	}
	return truth
}

// story is a ship and a list of changes, which can be done or not.
type story struct {
	ship []int
	list []impl.Change
}

// shipsFrom has all ships of so many of some planks, in each order.
func shipsFrom(planks []int, length int) [][]int {
	if length == 0 {
		return [][]int{nil}
	}
	var all [][]int
	for _, ship := range shipsFrom(planks, length-1) {
		for _, plank := range planks {
			if !slices.Contains(ship, plank) {
				all = append(all, append(slices.Clone(ship), plank))
			}
		}
	}
	return all
}

// smallShips has all ships of one to four of four planks, the first and the last one among them: 4, 12, 24 and 24.
func smallShips() [][]int {
	var all [][]int
	for length := 1; length <= 4; length++ {
		all = append(all, shipsFrom([]int{0, 1, 50, 99}, length)...)
	}
	return all
}

// largeShips has ships of five and six planks, some with the same planks at other places, and some with nothing in common.
func largeShips() [][]int {
	all := [][]int{
		{0, 1, 2, 3, 4},
		{4, 3, 2, 1, 0},
		{95, 96, 97, 98, 99},
		{0, 99, 1, 98, 50},
		{0, 1, 2, 3, 4, 5},
		{5, 0, 1, 2, 3, 4},
		{5, 4, 3, 2, 1, 0},
		{6, 7, 8, 9, 10, 11},
		{3, 4, 5, 6, 7, 8},
		{94, 95, 96, 97, 98, 99},
		{99, 98, 97, 96, 95, 94},
		{0, 99, 1, 98, 50, 49},
		{0, 20, 40, 60, 80, 99},
	}
	for i, ship := range shipsFrom([]int{0, 1, 2, 3, 50, 98, 99}, 6) {
		if i%197 == 0 { // of 5040
			all = append(all, ship)
		}
	}
	return all
}

func ships() [][]int {
	return append(smallShips(), largeShips()...)
}

func numbersFrom(low, high int) []int {
	var list []int
	for n := low; n <= high; n++ {
		list = append(list, n)
	}
	return list
}

// changesOf has a change of each of some places to each of some planks.
func changesOf(places, planks []int) []impl.Change {
	var all []impl.Change
	for _, place := range places {
		for _, plank := range planks {
			all = append(all, impl.Change{Place: place, Plank: plank})
		}
	}
	return all
}

// smallStories has, of a few ships of one to three planks, all stories of at most three of some changes, among which each kind is that cannot be done.
func smallStories() []story {
	var all []story
	for length := 1; length <= 3; length++ {
		for _, ship := range shipsFrom([]int{0, 1, 99}, length)[:3] {
			some := changesOf(numbersFrom(-1, length), []int{0, 1, 2, 99, 100})
			if length == 3 {
				some = changesOf(numbersFrom(0, 3), []int{0, 1, 2, 3, 99})
			}
			for changes := range 4 {
				lists(changes, 0, len(some)-1, func(numbers []int) {
					list := make([]impl.Change, 0, changes)
					for _, number := range numbers {
						list = append(list, some[number])
					}
					all = append(all, story{ship, list})
				})
			}
		}
	}
	return all
}

// byRule makes a function that has one number after the other below a bound, always the same ones, but in no plain order.
func byRule() func(below int) int {
	seed := 1
	return func(below int) int {
		seed = seed * 75 % 65537
		return seed % below
	}
}

// longStories has stories of up to MaxStory changes of all kinds of ships. They follow a rule that takes each place, and two that are not there, and few planks or many of them: where they are few, planks are put back.
func longStories() []story {
	var all []story
	next := byRule()
	for _, planks := range []int{3, 6, 9, 15, 40, 103} {
		for _, ship := range slices.Repeat(ships(), 4) {
			list := make([]impl.Change, next(21))
			for i := range list {
				list[i] = impl.Change{Place: next(len(ship)+2) - 1, Plank: next(planks+1) - 1}
			}
			all = append(all, story{ship, list})
		}
	}
	return all
}

// noShips has lists of planks that are no ships, by what is wrong with them.
func noShips() map[string][]int {
	return map[string][]int{
		"nothing":                                nil,
		"no planks":                              {},
		"seven planks":                           {0, 1, 2, 3, 4, 5, 6},
		"seven planks backwards":                 {99, 98, 97, 96, 95, 94, 93},
		"seven times the same":                   {7, 7, 7, 7, 7, 7, 7},
		"six planks and one of them":             {0, 1, 2, 3, 4, 5, 5},
		"a hundred planks":                       numbersFrom(0, 99),
		"a plank twice":                          {3, 3},
		"the first plank twice":                  {0, 0},
		"the last plank twice":                   {99, 99},
		"a plank twice with another one between": {3, 5, 3},
		"a plank twice behind others":            {8, 5, 3, 3},
		"the last of six is the first":           {0, 1, 2, 3, 4, 0},
		"the last of six is the one before":      {0, 1, 2, 3, 4, 4},
		"six times the same":                     {1, 1, 1, 1, 1, 1},
		"a negative plank":                       {-1},
		"a negative plank first":                 {-1, 0, 1},
		"a negative plank last":                  {0, 1, -1},
		"the last of six is negative":            {0, 1, 2, 3, 4, -1},
		"a negative plank twice":                 {-5, -5},
		"a plank and the same below 0":           {7, -7},
		"a plank past the end":                   {100},
		"a plank past the end first":             {100, 99},
		"a plank past the end last":              {98, 99, 100},
		"the last of six is past the end":        {95, 96, 97, 98, 99, 100},
		"a plank far past the end":               {1, 1000},
		"a plank and a word":                     {power(32)},
		"the least number":                       {math.MinInt},
		"the least number last":                  {0, math.MinInt},
		"the greatest number":                    {math.MaxInt},
		"the greatest number first":              {math.MaxInt, 5},
	}
}

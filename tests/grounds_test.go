package tests

import (
	"math"
	"slices"
)

// nearness tells for each two places whether the one is told as a neighbour of the other one. As with relation, the tests judge the program by it, and not by sets of bits.
type nearness [][]bool

// nearnessOf is false where a set has numbers of other places, or is negative.
func nearnessOf(g []int) (nearness, bool) {
	told, ok := relationOf(g)
	return nearness(told), ok
}

// isGround asks each sentence of the definition of its own.
func isGround(g []int) bool {
	near, ok := nearnessOf(g)
	if !ok || len(g) < 1 || len(g) > 7 {
		return false
	}
	for p := range near {
		if near[p][p] {
			return false
		}
		for q := range near {
			if near[p][q] && !near[q][p] {
				return false
			}
		}
	}
	return true
}

func (near nearness) touch(a, b []int) bool {
	for _, p := range a {
		for _, q := range b {
			if p == q || near[p][q] {
				return true
			}
		}
	}
	return false
}

func (near nearness) outside(a, b []int) bool {
	for _, p := range a {
		if slices.Contains(b, p) {
			return false
		}
	}
	return near.touch(a, b)
}

func (near nearness) inside(a, b []int) bool {
	for _, p := range a {
		if !slices.Contains(b, p) {
			return false
		}
		for q := range near {
			if near[p][q] && !slices.Contains(b, q) {
				return false
			}
		}
	}
	return true
}

func (near nearness) border(a []int) []int {
	var list []int
	for _, p := range a {
		for q := range near {
			if near[p][q] && !slices.Contains(a, q) {
				list = append(list, p)
				break
			}
		}
	}
	return list
}

func (near nearness) grown(a []int) []int {
	var list []int
	for q := range near {
		beside := slices.ContainsFunc(a, func(p int) bool { return near[p][q] })
		if beside || slices.Contains(a, q) {
			list = append(list, q)
		}
	}
	return list
}

// reached has the places of a list to which a way leads from one of them, over neighbours in the list.
func (near nearness) reached(a []int, from int) []int {
	found := []int{from}
	for i := 0; i < len(found); i++ {
		for _, q := range a {
			if near[found[i]][q] && !slices.Contains(found, q) {
				found = append(found, q)
			}
		}
	}
	slices.Sort(found)
	return found
}

// together asks for ways, and not for cuts: what cannot be reached is the other part of a cut.
func (near nearness) together(a []int) bool {
	return len(near.reached(a, a[0])) == len(a)
}

// pieces has what is reached from each place that is the least one of it.
func (near nearness) pieces(a []int) []int {
	var sets []int
	for _, p := range a {
		if piece := near.reached(a, p); piece[0] == p {
			sets = append(sets, setOf(piece))
		}
	}
	return sets
}

func (near nearness) holes(a []int) []int {
	var others []int
	for p := range near {
		if !slices.Contains(a, p) {
			others = append(others, p)
		}
	}
	var sets []int
	for _, piece := range near.pieces(others) {
		if !inSet(piece, 0) {
			sets = append(sets, piece)
		}
	}
	return sets
}

// cutAt expects two places or more.
func (near nearness) cutAt(a []int) []int {
	var list []int
	for i, p := range a {
		if rest := slices.Delete(slices.Clone(a), i, i+1); !near.together(rest) {
			list = append(list, p)
		}
	}
	return list
}

// groundWith has so many places, of which each two are neighbours for which it holds.
func groundWith(n int, near func(p, q int) bool) []int {
	g := make([]int, n)
	for q := range n {
		for p := range q {
			if near(p, q) {
				g[p] += power(q)
				g[q] += power(p)
			}
		}
	}
	return g
}

// groundOfPairs has so many places, of which those pairs are neighbours whose numbers, from 0 on, are in the set.
func groundOfPairs(n, set int) []int {
	chosen := members(set)
	next := -1
	return groundWith(n, func(int, int) bool {
		next++
		return slices.Contains(chosen, next)
	})
}

func groundWithout(n int) []int {
	return groundWith(n, func(int, int) bool { return false })
}

// groundOfEach has each place as a neighbour of each other one.
func groundOfEach(n int) []int {
	return groundWith(n, func(int, int) bool { return true })
}

func groundInLine(n int) []int {
	return groundWith(n, func(p, q int) bool { return p+1 == q })
}

func groundInRing(n int) []int {
	return groundWith(n, func(p, q int) bool { return p+1 == q || q-p == n-1 })
}

// groundAround has the place 0 as the one neighbour of each other one.
func groundAround(n int) []int {
	return groundWith(n, func(p, _ int) bool { return p == 0 })
}

// groundInPairs has two places each as neighbours, and one without if their number is odd.
func groundInPairs(n int) []int {
	return groundWith(n, func(p, q int) bool { return p/2 == q/2 })
}

// groundInHalves has each even place as a neighbour of each odd one.
func groundInHalves(n int) []int {
	return groundWith(n, func(p, q int) bool { return (q-p)%2 == 1 })
}

// groundShapes has grounds of so many places by their names.
func groundShapes(n int) map[string][]int {
	return map[string][]int{
		"without neighbours": groundWithout(n),
		"of each":            groundOfEach(n),
		"in line":            groundInLine(n),
		"in a ring":          groundInRing(n),
		"around the first":   groundAround(n),
		"in pairs":           groundInPairs(n),
		"in halves":          groundInHalves(n),
	}
}

// smallGrounds has all grounds of one to five places: 1, 2, 8, 64 and 1024.
func smallGrounds() [][]int {
	var all [][]int
	for n := 1; n <= 5; n++ {
		for set := range power(n * (n - 1) / 2) {
			all = append(all, groundOfPairs(n, set))
		}
	}
	return all
}

// largeGrounds has shapes of six and seven places, and of the other grounds, 32768 and 2097152, some far from each other in number.
func largeGrounds() [][]int {
	var all [][]int
	for n, step := range map[int]int{6: 499, 7: 52361} {
		for _, g := range groundShapes(n) {
			all = append(all, g)
		}
		for set := 0; set < power(n*(n-1)/2); set += step {
			all = append(all, groundOfPairs(n, set))
		}
	}
	slices.SortFunc(all, slices.Compare)
	return slices.CompactFunc(all, slices.Equal)
}

func grounds() [][]int {
	return append(smallGrounds(), largeGrounds()...)
}

// noGrounds has lists of sets that are no grounds, by what is wrong with them.
func noGrounds() map[string][]int {
	none := map[string][]int{
		"nothing":                               nil,
		"no places":                             {},
		"as many places as bits":                groundWithout(64),
		"more places than bits":                 groundWithout(65),
		"many places":                           slices.Repeat([]int{0}, 300),
		"one place that is its own neighbour":   {1},
		"the first of two is its own":           {1, 0},
		"the last of two is its own":            {0, 2},
		"one of two neighbours is its own":      {3, 1},
		"the other one is":                      {2, 3},
		"both neighbours are their own":         {3, 3},
		"the last of seven is its own":          {0, 0, 0, 0, 0, 0, 64},
		"all of seven are their own":            flat(7),
		"all are neighbours, themselves too":    slices.Repeat([]int{127}, 7),
		"a neighbour the first way":             {2, 0},
		"a neighbour the second way":            {0, 1},
		"one way around":                        {2, 4, 1},
		"one way in line":                       {2, 4, 0},
		"a line that is missed once":            {2, 5, 8, 4},
		"a line without its end":                {2, 5, 10, 20, 40, 80, 0},
		"a line without its beginning":          {0, 5, 10, 20, 40, 80, 32},
		"the first has each, and none has it":   {126, 0, 0, 0, 0, 0, 0},
		"each has the first, and it has none":   {0, 1, 1, 1, 1, 1, 1},
		"a neighbour that is not there":         {2},
		"a neighbour past the end":              {2, 5},
		"both have one past the end":            {6, 5},
		"the third of two":                      {4, 0},
		"the eighth of seven":                   {0, 0, 0, 0, 0, 0, 128},
		"the eighth of seven, for the first":    {128, 0, 0, 0, 0, 0, 0},
		"the eighth of each of seven":           slices.Repeat([]int{128}, 7),
		"a neighbour far past the end":          {2 + power(40), 1},
		"the bit of half a word":                {power(31)},
		"a word and a place":                    {2 + power(32), 1},
		"the last bit":                          {power(62)},
		"all bits":                              {-1},
		"all bits but the place itself":         {-2},
		"a negative set":                        {0, -1},
		"a negative set with its neighbour":     {2, -3},
		"a negative set first":                  {-2, 1},
		"the least number":                      {math.MinInt},
		"the least number and a neighbour":      {2, math.MinInt + 1},
		"the least number of each":              {math.MinInt + 2, math.MinInt + 1},
		"the least number among seven":          {2, 5, 10, 20, 40, 80, math.MinInt + 32},
		"the greatest number":                   {math.MaxInt},
		"the greatest number but the place":     {math.MaxInt - 1, 1},
		"a world of parts, which are their own": {1, 2, 7},
	}
	for name, g := range groundShapes(8) {
		none["eight places "+name] = g
	}
	for name, g := range groundShapes(20) {
		none["twenty places "+name] = g
	}
	return none
}

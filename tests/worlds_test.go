package tests

import (
	"math"
	"slices"
)

// relation tells for each two things a and b whether a is a part of b. The tests judge the program by it, and not by sets of bits, so that they share no mistake with it.
type relation [][]bool

// relationOf reads the sets as they are told, number by number; false where a set has numbers of other things, or is negative.
func relationOf(w []int) (relation, bool) {
	r := make(relation, len(w))
	for a := range r {
		r[a] = make([]bool, len(w))
	}
	for b, parts := range w {
		if parts < 0 {
			return nil, false
		}
		for a := range w {
			r[a][b] = parts%2 == 1
			parts /= 2
		}
		if parts != 0 {
			return nil, false
		}
	}
	return r, true
}

// isWorld asks each sentence of the definition of its own.
func isWorld(w []int) bool {
	r, ok := relationOf(w)
	if !ok || len(w) < 1 || len(w) > 7 {
		return false
	}
	for a := range r {
		if !r[a][a] {
			return false
		}
		for b := range r {
			if a != b && r[a][b] && r[b][a] {
				return false
			}
			for c := range r {
				if r[a][b] && r[b][c] && !r[a][c] {
					return false
				}
			}
		}
	}
	return true
}

func (r relation) overlap(a, b int) bool {
	for c := range r {
		if r[c][a] && r[c][b] {
			return true
		}
	}
	return false
}

// atom asks for a part that is another thing.
func (r relation) atom(a int) bool {
	for b := range r {
		if b != a && r[b][a] {
			return false
		}
	}
	return true
}

func (r relation) atomsIn(a int) []int {
	var list []int
	for b := range r {
		if r.atom(b) && r[b][a] {
			list = append(list, b)
		}
	}
	return list
}

func (r relation) properParts(a int) []int {
	var list []int
	for b := range r {
		if b != a && r[b][a] {
			list = append(list, b)
		}
	}
	return list
}

// rests has the parts of a that are apart from b.
func (r relation) rests(a, b int) []int {
	var list []int
	for c := range r {
		if r[c][a] && !r.overlap(c, b) {
			list = append(list, c)
		}
	}
	return list
}

// sums has the things that overlap a thing just if something of the list does.
func (r relation) sums(list []int) []int {
	var sums []int
	for a := range r {
		same := true
		for c := range r {
			met := slices.ContainsFunc(list, func(b int) bool { return r.overlap(b, c) })
			same = same && r.overlap(a, c) == met
		}
		if same {
			sums = append(sums, a)
		}
	}
	return sums
}

func (r relation) bounds(list []int) []int {
	var bounds []int
	for b := range r {
		if !slices.ContainsFunc(list, func(a int) bool { return !r[a][b] }) {
			bounds = append(bounds, b)
		}
	}
	return bounds
}

// strong asks of each two things for a part of the one that is apart from the other one.
func (r relation) strong() bool {
	for a := range r {
		for b := range r {
			if !r[a][b] && len(r.rests(a, b)) == 0 {
				return false
			}
		}
	}
	return true
}

func (r relation) summed() bool {
	for set := 1; set < power(len(r)); set++ {
		if len(r.sums(members(set))) == 0 {
			return false
		}
	}
	return true
}

func (r relation) atoms() []int {
	var list []int
	for a := range r {
		if r.atom(a) {
			list = append(list, a)
		}
	}
	return list
}

// withAtoms has the things whose atoms are these.
func (r relation) withAtoms(list []int) []int {
	var found []int
	for a := range r {
		if slices.Equal(r.atomsIn(a), list) {
			found = append(found, a)
		}
	}
	return found
}

// points has for each thing the set of its atoms, which are counted from 0 on.
func (r relation) points() []int {
	var sets []int
	for a := range r {
		var counted []int
		for number, atom := range r.atoms() {
			if r[atom][a] {
				counted = append(counted, number)
			}
		}
		sets = append(sets, setOf(counted))
	}
	return sets
}

// names leaves out the empty set of counted atoms: each other one tells the name of a thing.
func (r relation) names() []int {
	names := r.points()
	for a := range names {
		names[a]--
	}
	return names
}

// least asks each bound whether it is a part of all; -1 if none is.
func (r relation) least(list []int) int {
	bounds := r.bounds(list)
	for _, a := range bounds {
		if !slices.ContainsFunc(bounds, func(b int) bool { return !r[a][b] }) {
			return a
		}
	}
	return -1
}

func (r relation) commonParts(a, b int) []int {
	var list []int
	for c := range r {
		if r[c][a] && r[c][b] {
			list = append(list, c)
		}
	}
	return list
}

func (r relation) apartFrom(a int) []int {
	var list []int
	for c := range r {
		if !r.overlap(c, a) {
			list = append(list, c)
		}
	}
	return list
}

// greatest asks each thing of the list whether all of the list are parts of it; -1 if of none they are.
func (r relation) greatest(list []int) int {
	for _, b := range list {
		if !slices.ContainsFunc(list, func(a int) bool { return !r[a][b] }) {
			return b
		}
	}
	return -1
}

// deep tries each set of things: a chain is one of which of each two things one is a part of the other one.
func (r relation) deep() int {
	most := 0
	for set := range 1 << len(r) {
		list := members(set)
		if r.inLine(list) {
			most = max(most, len(list))
		}
	}
	return most
}

func (r relation) inLine(list []int) bool {
	for _, a := range list {
		for _, b := range list {
			if !r[a][b] && !r[b][a] {
				return false
			}
		}
	}
	return true
}

func members(set int) []int {
	var list []int
	for a := 0; set > 0; a++ {
		if set%2 == 1 {
			list = append(list, a)
		}
		set /= 2
	}
	return list
}

func setOf(list []int) int {
	set := 0
	for _, a := range list {
		set += power(a)
	}
	return set
}

func power(a int) int {
	p := 1
	for range a {
		p *= 2
	}
	return p
}

func inSet(set, a int) bool {
	return slices.Contains(members(set), a)
}

// both has what is in either set.
func both(set, other int) int {
	list := append(members(set), members(other)...)
	slices.Sort(list)
	return setOf(slices.Compact(list))
}

func inside(set, other int) bool {
	for _, a := range members(set) {
		if !inSet(other, a) {
			return false
		}
	}
	return true
}

// lists calls do with each list of so many numbers in low..high.
func lists(length, low, high int, do func([]int)) {
	list := make([]int, 0, length)
	var next func()
	next = func() {
		if len(list) == length {
			do(slices.Clone(list))
			return
		}
		for n := low; n <= high; n++ {
			list = append(list, n)
			next()
			list = list[:len(list)-1]
		}
	}
	next()
}

func flat(n int) []int {
	w := make([]int, n)
	for a := range w {
		w[a] = power(a)
	}
	return w
}

// line is the world in which each thing is a part of all that follow it.
func line(n int) []int {
	w := make([]int, n)
	for a := range w {
		w[a] = power(a+1) - 1
	}
	return w
}

// backwards is the same world with its things in the opposite order.
func backwards(w []int) []int {
	n := len(w)
	out := make([]int, n)
	for b, parts := range w {
		var list []int
		for _, a := range members(parts) {
			list = append(list, n-1-a)
		}
		out[n-1-b] = setOf(list)
	}
	return out
}

// worldOfSets is the world of sets of points, one within another one.
func worldOfSets(sets []int) []int {
	w := make([]int, len(sets))
	for b, whole := range sets {
		for a, part := range sets {
			if inside(part, whole) {
				w[b] += power(a)
			}
		}
	}
	return w
}

// isFamily asks each sentence of the definition of its own.
func isFamily(list []int) bool {
	if len(list) < 1 || len(list) > 7 {
		return false
	}
	for i, set := range list {
		if set <= 0 || set > 15 || slices.Contains(list[:i], set) {
			return false
		}
	}
	return true
}

// togetherOf has what is in any set of a list.
func togetherOf(list []int) int {
	all := 0
	for _, set := range list {
		all = both(all, set)
	}
	return all
}

// pointsOf has the sets of one point, of each point of a set of a list, in ascending order.
func pointsOf(list []int) []int {
	var points []int
	for _, point := range members(togetherOf(list)) {
		points = append(points, power(point))
	}
	return points
}

// putTogether has what is in any of some sets of a list, of one or more, for each choice of these, in ascending order.
func putTogether(list []int) []int {
	var sums []int
	for chosen := 1; chosen < power(len(list)); chosen++ {
		var some []int
		for _, i := range members(chosen) {
			some = append(some, list[i])
		}
		sums = append(sums, togetherOf(some))
	}
	slices.Sort(sums)
	return slices.Compact(sums)
}

// withBehind has a list and behind it the others that are not in it; nil if these are more than seven in all.
func withBehind(list, others []int) []int {
	with := slices.Clone(list)
	for _, set := range others {
		if !slices.Contains(list, set) {
			with = append(with, set)
		}
	}
	if len(with) > 7 {
		return nil
	}
	return with
}

// families has all families of one to seven sets of four points, in ascending order: 16383.
func families() [][]int {
	var all [][]int
	for chosen := 1; chosen < power(15); chosen++ {
		if sets := members(chosen * 2); len(sets) <= 7 {
			all = append(all, sets)
		}
	}
	return all
}

// orders has a list as it is, backwards, and with every other one of it ahead of the rest.
func orders(list []int) [][]int {
	back := slices.Clone(list)
	slices.Reverse(back)
	var first, rest []int
	for i, set := range list {
		if i%2 == 1 {
			first = append(first, set)
		} else {
			rest = append(rest, set)
		}
	}
	return [][]int{list, back, append(first, rest...)}
}

// noFamilies has lists of sets that are no families, by what is wrong with them.
func noFamilies() map[string][]int {
	return map[string][]int{
		"nothing":                              nil,
		"no sets":                              {},
		"eight sets":                           {1, 2, 3, 4, 5, 6, 7, 8},
		"eight sets backwards":                 {8, 7, 6, 5, 4, 3, 2, 1},
		"all sets of four points":              members(power(16) - 2),
		"eight times the same":                 {1, 1, 1, 1, 1, 1, 1, 1},
		"seven sets and one of them":           {1, 2, 3, 4, 5, 6, 7, 7},
		"many sets":                            slices.Repeat([]int{1, 2, 4}, 20),
		"a set twice":                          {1, 1},
		"all points twice":                     {15, 15},
		"a set twice with another one between": {3, 5, 3},
		"the last of seven is the first":       {1, 2, 3, 4, 5, 6, 1},
		"the last of seven is the one before":  {1, 2, 3, 4, 5, 6, 6},
		"the empty set":                        {0},
		"the empty set first":                  {0, 1, 2},
		"the empty set last":                   {1, 2, 0},
		"the empty set twice":                  {0, 0},
		"the fifth point":                      {16},
		"the fifth point and others":           {17},
		"five points":                          {1, 2, 31},
		"the fifth point first":                {16, 1, 2},
		"a point far past the end":             {1, 2 + power(40)},
		"the bit of half a word":               {power(31)},
		"a word and a point":                   {power(32) + 1},
		"all bits":                             {-1},
		"a negative set":                       {1, -2},
		"a negative set first":                 {-4, 3},
		"all negative":                         {-1, -2, -3},
		"the least number":                     {math.MinInt},
		"the least number and a point":         {2, math.MinInt + 1},
		"the least number and all points":      {math.MinInt + 15},
		"the greatest number":                  {math.MaxInt},
		"the greatest number but a point":      {1, math.MaxInt - 1},
	}
}

// threePoints has the worlds of all sets of three points, in each order in which the points come one after the other: other orders of the points have but other names for them.
func threePoints() [][]int {
	var all [][]int
	var next func(sets []int)
	next = func(sets []int) {
		if len(sets) == 7 {
			all = append(all, worldOfSets(sets))
			return
		}
		for set := 1; set <= 7; set++ {
			early := set == 2 && !slices.Contains(sets, 1) || set == 4 && !slices.Contains(sets, 2)
			if !early && !slices.Contains(sets, set) {
				next(append(slices.Clone(sets), set))
			}
		}
	}
	next(nil)
	return all
}

// strongWorlds has all strong worlds of one to seven things, and each of them backwards; other orders of their things are left out. In each of them there are points alone, and sets of two points or more behind these.
func strongWorlds() [][]int {
	var all [][]int
	var next func(sets []int, from, end int)
	next = func(sets []int, from, end int) {
		all = append(all, worldOfSets(sets))
		for set := from; set < end && len(sets) < 7; set++ {
			if len(members(set)) > 1 {
				next(append(slices.Clone(sets), set), set+1, end)
			}
		}
	}
	for points := 1; points <= 7; points++ {
		next(flat(points), 1, power(points))
	}
	for _, w := range all[:len(all):len(all)] {
		all = append(all, backwards(w))
	}
	return all
}

// worldsAsDefined tries all lists of sets of so many things. They come in ascending order, the last set changing first.
func worldsAsDefined(n int) [][]int {
	var all [][]int
	lists(n, 0, power(n)-1, func(w []int) {
		if isWorld(w) {
			all = append(all, w)
		}
	})
	return all
}

// smallWorlds has all worlds of one to four things: 1, 3, 19 and 219.
func smallWorlds() [][]int {
	return slices.Concat(worldsAsDefined(1), worldsAsDefined(2), worldsAsDefined(3), worldsAsDefined(4))
}

// largeWorlds has worlds of MaxThings things: flat, in a line, with a thing that is part of all, with one that has all, all sets of three points, and seven sets of points each; and each of them backwards.
func largeWorlds() [][]int {
	all := [][]int{
		flat(7),
		line(7),
		{1, 3, 5, 9, 17, 33, 65},
		{1, 2, 4, 8, 16, 32, 127},
		worldOfSets([]int{1, 2, 3, 4, 5, 6, 7}),
	}
	// of the 6435 families of seven sets of four points every fiftieth is enough
	families := 0
	for chosen := range power(15) {
		if sets := members(chosen * 2); len(sets) == 7 {
			if families%50 == 0 {
				all = append(all, worldOfSets(sets))
			}
			families++
		}
	}
	for _, w := range all[:len(all):len(all)] {
		all = append(all, backwards(w))
	}
	return all
}

func worlds() [][]int {
	return append(smallWorlds(), largeWorlds()...)
}

// worldsOfFive has all 4231 worlds of five things: a world without its last thing is one, so each is a world of four with one thing more.
func worldsOfFive() [][]int {
	var all [][]int
	for _, w := range smallWorlds() {
		if len(w) < 4 {
			continue
		}
		for parts := range power(4) {
			for wholes := range power(4) {
				if more := withLast(w, parts, wholes); isWorld(more) {
					all = append(all, more)
				}
			}
		}
	}
	return all
}

// withLast puts a thing behind a world, with these things as its parts, and these as its wholes.
func withLast(w []int, parts, wholes int) []int {
	last := power(len(w))
	more := append(slices.Clone(w), parts+last)
	for _, b := range members(wholes) {
		more[b] += last
	}
	return more
}

// noWorlds has lists of sets that are no worlds, by what is wrong with them.
func noWorlds() map[string][]int {
	return map[string][]int{
		"nothing":                            nil,
		"no things":                          {},
		"eight things":                       flat(8),
		"eight things in a line":             line(8),
		"many things":                        flat(40),
		"many things in a line of sets":      line(60),
		"a set without anything":             {0},
		"a thing that is not its own part":   {1, 0},
		"a thing that is but another's part": {1, 1},
		"another's part and not its own":     {1, 3, 3},
		"the first is not its own part":      {2, 2},
		"the same parts":                     {3, 3},
		"parts of each other":                {1, 6, 6},
		"parts of each other around":         {3, 6, 5},
		"all parts of all":                   {7, 7, 7},
		"a part of a part that is missing":   {1, 3, 6},
		"the same backwards":                 {3, 6, 4},
		"a deep part that is missing":        {1, 3, 7, 13},
		"the last of seven misses a part":    {1, 3, 7, 15, 31, 63, 126},
		"a thing that is not there":          {3},
		"only a thing that is not there":     {2},
		"a thing past the end":               {1, 2, 12},
		"a thing far past the end":           {1, 2 + power(40)},
		"the eighth of seven things":         {1, 2, 4, 8, 16, 32, 64 + 128},
		"all bits":                           {-1},
		"a negative set":                     {1, -2},
		"a negative set with itself":         {1, 2, math.MinInt + 4},
		"the least number":                   {math.MinInt},
		"the greatest number":                {math.MaxInt},
		"the least number and itself":        {math.MinInt + 1},
		"a set for each is the greatest":     {math.MaxInt, math.MaxInt},
	}
}

// almostWorlds has lists of which but one set is wrong, or one thing too many: the others are atoms alone, or a whole of atoms.
func almostWorlds() [][]int {
	return [][]int{flat(8), {1, 2, 0}, {1, 2, 3}, {1, 2, 4, 7}, {1, 2, 12}, {1, 2, 15}, {1, 2, -4}, {1, 2, math.MinInt + 4}, {1, 2, math.MinInt + 7}}
}

// noThings has numbers that no thing of a world of so many things has.
func noThings(n int) []int {
	return []int{-1, -2, -7, -64, math.MinInt, n, n + 1, 7, 8, 31, 32, 63, 64, 65, math.MaxInt}
}

// noSets has numbers that tell no set of things, of one or more, of a world of so many things.
func noSets(n int) []int {
	all := power(n) - 1
	return []int{0, -1, -2, -all, -all - 1, all + 1, all + 2, 2*all + 1, 2 * (all + 1), power(31), power(32) + 1, power(40) + all, power(62), math.MinInt, math.MinInt + 1, math.MinInt + all, math.MaxInt, math.MaxInt - all}
}

package tests

import (
	"math"
	"slices"
	"strings"
	"sync"

	"loop.example/partsandwholes/impl"
)

// setTexts has the text of each set of points. They are written out, so that the tests put no letters together as the program does. The empty set has none.
var setTexts = []string{"", "a", "b", "ab", "c", "ac", "bc", "abc", "d", "ad", "bd", "abd", "cd", "acd", "bcd", "abcd"}

type deedTold struct {
	deed impl.Deed
	text string
}

// deedsTold has all deeds that have a text: 33.
var deedsTold = sync.OnceValue(func() []deedTold {
	all := []deedTold{{impl.Deed{Kind: 2}, "points"}, {impl.Deed{Kind: 3}, "sums"}, {impl.Deed{Kind: 4}, "back"}}
	for set := 1; set <= 15; set++ {
		all = append(all, deedTold{impl.Deed{Kind: 0, Set: set}, "put " + setTexts[set]}, deedTold{impl.Deed{Kind: 1, Set: set}, "take " + setTexts[set]})
	}
	return all
})

// deedText has "" for deeds that have no text.
func deedText(a impl.Deed) string {
	for _, told := range deedsTold() {
		if told.deed == a {
			return told.text
		}
	}
	return ""
}

// deedsWith has a deed of each of some kinds with each of some sets.
func deedsWith(kinds, sets []int) []impl.Deed {
	var all []impl.Deed
	for _, kind := range kinds {
		for _, set := range sets {
			all = append(all, impl.Deed{Kind: kind, Set: set})
		}
	}
	return all
}

// wrongDeeds has deeds without texts: of kinds that are none, with sets that are none, and with sets beside kinds that name none.
func wrongDeeds() []impl.Deed {
	ends := []int{math.MinInt, math.MinInt + 1, -power(32), -16, -1, 16, 17, 31, power(31), power(32) + 1, math.MaxInt}
	return slices.Concat(
		deedsWith([]int{math.MinInt, -power(32), -5, -1, 5, 6, power(32), power(32) + 2, math.MaxInt}, []int{0, 1, 3, 15, -1}),
		deedsWith([]int{0, 1}, append(ends, 0)),
		deedsWith([]int{2, 3, 4}, slices.Concat(ends, numbersFrom(1, 15))),
	)
}

// isDesk asks each sentence of the definition of its own.
func isDesk(d impl.Desk) bool {
	others := slices.ContainsFunc(d.Past, func(list []int) bool { return !isFamily(list) })
	return isFamily(d.Now) && len(d.Past) <= 8 && !others
}

func sameDesk(d, other impl.Desk) bool {
	return slices.Equal(d.Now, other.Now) && slices.EqualFunc(d.Past, other.Past, slices.Equal)
}

func isNothing(d impl.Desk) bool {
	return len(d.Now) == 0 && len(d.Past) == 0
}

// familyMade has what one of the four deeds that change a family makes of it, be it a family or not; nil for other deeds.
func familyMade(list []int, a impl.Deed) []int {
	switch {
	case a.Kind == 0:
		return slices.Concat(list, []int{a.Set})
	case a.Kind == 1:
		var rest []int
		for _, set := range list {
			if set != a.Set {
				rest = append(rest, set)
			}
		}
		return rest
	case a.Kind == 2 && a.Set == 0:
		return withBehind(list, pointsOf(list))
	case a.Kind == 3 && a.Set == 0:
		return withBehind(list, putTogether(list))
	}
	return nil
}

// deskAfter asks the definitions, and nothing of the program. What it has shares memory with the desk.
func deskAfter(d impl.Desk, a impl.Deed) (impl.Desk, bool) {
	last := len(d.Past) - 1
	if a.Kind == 4 && a.Set == 0 && last >= 0 {
		return impl.Desk{Now: d.Past[last], Past: d.Past[:last]}, true
	}
	made := familyMade(d.Now, a)
	if !isFamily(made) || slices.Equal(made, d.Now) {
		return d, false
	}
	past := slices.Concat(d.Past, [][]int{d.Now})
	for len(past) > 8 {
		past = past[1:]
	}
	return impl.Desk{Now: made, Past: past}, true
}

// desksAfter has the desk, and then that after each deed of a list that can be done.
func desksAfter(d impl.Desk, list []impl.Deed) []impl.Desk {
	all := []impl.Desk{d}
	for _, a := range list {
		if after, ok := deskAfter(all[len(all)-1], a); ok {
			all = append(all, after)
		}
	}
	return all
}

// journalAsDefined looks for the one text of a deed with which a text begins, and a newline behind it.
func journalAsDefined(s string) ([]impl.Deed, int) {
	for _, told := range deedsTold() {
		line := told.text + "\n"
		if rest, begins := strings.CutPrefix(s, line); begins {
			list, read := journalAsDefined(rest)
			return slices.Concat([]impl.Deed{told.deed}, list), len(line) + read
		}
	}
	return nil, 0
}

// textsAt has the texts of the sets at some places of a family.
func textsAt(list []int, places []int) string {
	var texts []string
	for _, place := range places {
		texts = append(texts, setTexts[list[place]])
	}
	if len(texts) == 0 {
		return "none"
	}
	return strings.Join(texts, ",")
}

func textAt(list []int, place int) string {
	if place < 0 {
		return "none"
	}
	return setTexts[list[place]]
}

func yesOrNo(is bool) string {
	return map[bool]string{true: "yes", false: "no"}[is]
}

// answersOf has all questions that a family answers, and the answers. They are asked of a relation, and of nothing of the program.
func answersOf(list []int) map[string]string {
	w := worldOfSets(list)
	r, _ := relationOf(w)
	is, places := supplementsAsDefined(w), numbersFrom(0, len(list)-1)
	answers := map[string]string{
		"all":       textsAt(list, places),
		"company":   yesOrNo(is.company),
		"weak":      yesOrNo(is.weak),
		"strong":    yesOrNo(is.strong),
		"summed":    yesOrNo(r.summed()),
		"classical": yesOrNo(is.strong && r.summed()),
		"atoms":     textsAt(list, r.atoms()),
		"whole":     textAt(list, r.greatest(places)),
	}
	for a, first := range list {
		for b, second := range list {
			both := " " + setTexts[first] + " " + setTexts[second]
			answers["sum"+both] = textsAt(list, r.sums([]int{a, b}))
			answers["common"+both] = textAt(list, r.greatest(r.commonParts(a, b)))
			answers["left"+both] = textAt(list, r.greatest(r.rests(a, b)))
		}
	}
	return answers
}

// answerAsDefined is given the answers of the desk's family (answersOf), so that these need not be found for each line again.
func answerAsDefined(d impl.Desk, answers map[string]string, line string) (impl.Desk, string) {
	for _, told := range deedsTold() {
		if told.text == line {
			after, ok := deskAfter(d, told.deed)
			return after, map[bool]string{true: "ok", false: "not"}[ok]
		}
	}
	if answer, ok := answers[line]; ok {
		return d, answer
	}
	return d, "what"
}

// saidAsDefined has the desk and the answers after lines, one after the other.
func saidAsDefined(d impl.Desk, lines []string) (impl.Desk, []string) {
	var all []string
	for _, line := range lines {
		after, answer := answerAsDefined(d, answersOf(d.Now), line)
		d, all = after, append(all, answer)
	}
	return d, all
}

// pastOf has so many families of before, which differ with a number, and some of which are there twice.
func pastOf(length, number int) [][]int {
	some := [][]int{{1}, {3, 6}, {15}, {1, 2, 4}, {6, 3, 1, 2, 4}, {1}, {8, 12}, {7, 11, 13, 14}, {1, 2, 3, 4, 5, 6, 7}, {2, 1}, {15, 1, 2, 4, 8}}
	var past [][]int
	for i := range length {
		past = append(past, slices.Clone(some[(number+i)%len(some)]))
	}
	return past
}

// desks has a desk of each family, with none to MaxPast families of before, and the sets in one of three orders.
var desks = sync.OnceValue(func() []impl.Desk {
	var all []impl.Desk
	for i, list := range families() {
		all = append(all, impl.Desk{Now: orders(list)[i%3], Past: pastOf(i%9, i)})
	}
	return all
})

// someDesks has the desks of all families of up to two sets, and some others.
func someDesks() []impl.Desk {
	var all []impl.Desk
	for i, d := range desks() {
		if len(d.Now) <= 2 || i%101 == 0 {
			all = append(all, d)
		}
	}
	return all
}

// smallRuns has all lists of at most three of some deeds of each kind.
func smallRuns() [][]impl.Deed {
	some := []impl.Deed{{Kind: 0, Set: 1}, {Kind: 0, Set: 6}, {Kind: 1, Set: 1}, {Kind: 1, Set: 3}, {Kind: 2}, {Kind: 3}, {Kind: 4}, {Kind: 2, Set: 1}}
	var all [][]impl.Deed
	for length := range 4 {
		lists(length, 0, len(some)-1, func(numbers []int) {
			list := make([]impl.Deed, 0, length)
			for _, number := range numbers {
				list = append(list, some[number])
			}
			all = append(all, list)
		})
	}
	return all
}

// deedsByRule has so many deeds that have texts: more often those of few sets, which are put and taken again, and those that name no set.
func deedsByRule(next func(int) int, count int) []impl.Deed {
	list := make([]impl.Deed, 0, count)
	for range count {
		if next(3) == 0 {
			list = append(list, impl.Deed{Kind: 2 + next(3)})
			continue
		}
		list = append(list, impl.Deed{Kind: next(2), Set: 1 + next(3+4*next(4))})
	}
	return list
}

// run is a desk and at most MaxLines deeds, which can be done or not.
type run struct {
	desk impl.Desk
	list []impl.Deed
}

// runs has short runs of a few desks, long ones of many, and some with deeds that have no text.
var runs = sync.OnceValue(func() []run {
	var all []run
	for _, d := range []impl.Desk{{Now: []int{1}}, {Now: []int{3, 6}}, {Now: []int{3, 1}, Past: pastOf(2, 3)}, {Now: []int{6, 7, 1}, Past: pastOf(8, 1)}} {
		for _, list := range smallRuns() {
			all = append(all, run{d, list})
		}
	}
	next, wrong := byRule(), wrongDeeds()
	for i, d := range someDesks() {
		list := deedsByRule(next, i%41)
		if i%3 == 0 {
			for j := range list {
				if next(4) == 0 {
					list[j] = wrong[next(len(wrong))]
				}
			}
		}
		all = append(all, run{d, list})
	}
	return all
})

// noDesks has desks that are none, by what is wrong with them.
func noDesks() map[string]impl.Desk {
	all := map[string]impl.Desk{
		"nothing":               {},
		"families of before":    {Past: pastOf(3, 0)},
		"nine of before":        {Now: []int{1}, Past: pastOf(9, 0)},
		"nine times the same":   {Now: []int{1}, Past: slices.Repeat([][]int{{1}}, 9)},
		"eighteen of before":    {Now: []int{3, 6}, Past: pastOf(18, 5)},
		"a hundred of before":   {Now: []int{3, 6}, Past: pastOf(100, 5)},
		"nothing, nine before":  {Past: pastOf(9, 2)},
		"nine, the last empty":  {Now: []int{1}, Past: append(pastOf(8, 2), nil)},
		"nine, the first empty": {Now: []int{1}, Past: append([][]int{nil}, pastOf(8, 2)...)},
	}
	for name, list := range noFamilies() {
		all[name+" lies there"] = impl.Desk{Now: list}
		all[name+" lies there, and eight before"] = impl.Desk{Now: list, Past: pastOf(8, 4)}
		all[name+" before"] = impl.Desk{Now: []int{3, 6}, Past: [][]int{list}}
		all[name+" first of eight"] = impl.Desk{Now: []int{3, 6}, Past: append([][]int{list}, pastOf(7, 1)...)}
		all[name+" between"] = impl.Desk{Now: []int{3, 6}, Past: slices.Concat(pastOf(3, 2), [][]int{list}, pastOf(2, 7))}
		all[name+" last of eight"] = impl.Desk{Now: []int{3, 6}, Past: append(pastOf(7, 3), list)}
		all[name+" now and before"] = impl.Desk{Now: list, Past: [][]int{list, list}}
	}
	return all
}

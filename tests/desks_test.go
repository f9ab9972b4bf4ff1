package tests

import (
	"math"
	"slices"
	"strings"
	"testing"

	"loop.example/partsandwholes/impl"
)

func TestDeskConstants(t *testing.T) {
	if impl.DkPut != 0 || impl.DkTake != 1 || impl.DkPoints != 2 || impl.DkSums != 3 || impl.DkBack != 4 || impl.MaxPast != 8 || impl.MaxLines != 40 {
		t.Error("the constants of chapter 12 are not those of the table")
	}
}

func TestSetTextsAsDefined(t *testing.T) {
	for set := 1; set <= 15; set++ {
		if got := impl.SetText(set); got != setTexts[set] {
			t.Errorf("SetText(%d) is %q, not %q", set, got, setTexts[set])
		}
	}
	for _, set := range wrongNumbers(1, 15) {
		if got := impl.SetText(set); got != "" {
			t.Errorf("SetText(%d) is %q", set, got)
		}
	}
}

// readAsDefined asks of a text what ReadSet is to answer: its place among all texts of sets, and -1 and false if it has none.
func readAsDefined(t *testing.T, s string) {
	t.Helper()
	want := slices.Index(setTexts[1:], s) + 1
	if want == 0 {
		want = -1
	}
	if set, ok := impl.ReadSet(s); set != want || ok != (want > 0) {
		t.Errorf("ReadSet(%q) is %d and %v, not %d", s, set, ok, want)
	}
}

// TestReadSetsAsDefined reads all texts of up to two bytes, and all of up to five of some letters and other bytes.
func TestReadSetsAsDefined(t *testing.T) {
	for length := range 3 {
		lists(length, 0, 255, func(bytes []int) {
			var s []byte
			for _, b := range bytes {
				s = append(s, byte(b))
			}
			readAsDefined(t, string(s))
		})
	}
	some := "abcdeA \n\x00"
	for length := range 6 {
		lists(length, 0, len(some)-1, func(places []int) {
			var s []byte
			for _, place := range places {
				s = append(s, some[place])
			}
			readAsDefined(t, string(s))
		})
	}
}

func TestPromise62(t *testing.T) {
	texts := map[string]bool{}
	for set := 1; set <= 15; set++ {
		text := impl.SetText(set)
		if got, ok := impl.ReadSet(text); !ok || got != set {
			t.Errorf("the text of %d is %q, which is read as %d and %v", set, text, got, ok)
		}
		texts[text] = true
	}
	if len(texts) != 15 {
		t.Error("of fifteen sets there are so many texts:", len(texts))
	}
}

// noSetTexts has texts of no sets, by what is wrong with them.
func noSetTexts() map[string]string {
	return map[string]string{
		"nothing":                      "",
		"letters out of order":         "ba",
		"the last letter first":        "dabc",
		"all letters backwards":        "dcba",
		"the last two exchanged":       "abdc",
		"a letter twice":               "aa",
		"the last letter twice":        "abcdd",
		"a letter again":               "aba",
		"all letters twice":            "abcdabcd",
		"each letter twice":            "aabbccdd",
		"a letter many times":          strings.Repeat("a", 100000),
		"another letter":               "e",
		"another letter last":          "abcde",
		"another letter first":         "zab",
		"another letter between":       "abxcd",
		"a capital letter":             "A",
		"capital letters":              "ABCD",
		"a capital letter last":        "abC",
		"a digit":                      "1",
		"a number":                     "15",
		"a space":                      " ",
		"a space ahead":                " ab",
		"a space behind":               "ab ",
		"a space between":              "a b",
		"a comma between":              "a,b",
		"a newline behind":             "ab\n",
		"a newline ahead":              "\nab",
		"a newline alone":              "\n",
		"a return behind":              "ab\r",
		"a tab":                        "a\tb",
		"a zero byte":                  "\x00",
		"a zero byte behind":           "ab\x00",
		"a byte that is no letter":     "\xff",
		"such a byte behind":           "abc\xff",
		"such a byte ahead":            "\x80a",
		"a letter and its high bit":    "\xe1",
		"a letter of another script":   "\u0430",
		"a wide letter":                "\uff41",
		"a letter with a mark":         "a\u0301",
		"a mark of the order of bytes": "\ufeffab",
		"a word of a question":         "all",
		"a word of a deed":             "back",
		"minus":                        "-a",
	}
}

func TestPromise63(t *testing.T) {
	for _, text := range setTexts[1:] {
		set, ok := impl.ReadSet(text)
		if !ok || impl.SetText(set) != text {
			t.Errorf("%q is read as %d and %v, of which the text is %q", text, set, ok, impl.SetText(set))
		}
	}
	for name, text := range noSetTexts() {
		if slices.Contains(setTexts[1:], text) {
			t.Errorf("%s: %q is a text of a set", name, text)
		}
		if set, ok := impl.ReadSet(text); ok || set != -1 {
			t.Errorf("%s: %q is read as %d and %v", name, text[:min(len(text), 20)], set, ok)
		}
	}
}

// TestDesksAsDefined asks of all desks of up to three lists, of which some are no families.
func TestDesksAsDefined(t *testing.T) {
	some := [][]int{{1}, {15}, {3, 6}, {1, 2, 3, 4, 5, 6, 7}, nil, {0}, {16}, {2, 2}, {-1}, {1, 2, 3, 4, 5, 6, 7, 8}}
	told := map[bool]int{}
	of := func(d impl.Desk) {
		if got := impl.DeskOk(d); got != isDesk(d) {
			t.Errorf("DeskOk(%v) is %v", d, got)
		}
		told[isDesk(d)]++
	}
	for length := range 4 {
		lists(length+1, 0, len(some)-1, func(numbers []int) {
			var past [][]int
			for _, number := range numbers[1:] {
				past = append(past, some[number])
			}
			of(impl.Desk{Now: some[numbers[0]], Past: past})
		})
	}
	for length := range 20 {
		of(impl.Desk{Now: []int{3, 6}, Past: pastOf(length, length)})
		of(impl.Desk{Past: pastOf(length, length)})
	}
	for _, d := range desks() {
		of(d)
	}
	if told[true] == 0 || told[false] == 0 {
		t.Error("desks, and what is none:", told)
	}
}

func TestPromise64(t *testing.T) {
	for _, d := range desks() {
		if !impl.DeskOk(d) || !impl.DeskOk(impl.Desk{Now: d.Now}) || !impl.DeskOk(impl.Desk{Now: d.Now, Past: d.Past[:0]}) {
			t.Errorf("%v is no desk, or none without any family of before", d)
		}
		for length := range d.Past {
			if !impl.DeskOk(impl.Desk{Now: d.Now, Past: d.Past[length:]}) || !impl.DeskOk(impl.Desk{Now: d.Now, Past: d.Past[:length]}) {
				t.Errorf("%v is no desk without some families of before", d)
			}
		}
	}
}

func TestPromise65(t *testing.T) {
	of := func(list []int) {
		d, ok := impl.DeskNew(list)
		if !isFamily(list) {
			if ok || !isNothing(d) {
				t.Errorf("DeskNew(%v) is %v and %v", list, d, ok)
			}
			return
		}
		if !ok || !slices.Equal(d.Now, list) || len(d.Past) != 0 || !impl.DeskOk(d) {
			t.Errorf("DeskNew(%v) is %v and %v", list, d, ok)
		}
	}
	ofEachFamily(of)
	for _, list := range noFamilies() {
		of(list)
	}
	for length := range 3 {
		lists(length, -3, 18, of)
	}
	for _, set := range wrongNumbers(1, 15) {
		of([]int{set})
		of([]int{1, set})
	}
}

type doneRow struct {
	before impl.Desk
	a      impl.Deed
	after  impl.Desk
	done   bool
	name   string
}

func doneRows() []doneRow {
	return slices.Concat(putRows(), takeRows(), completedRows(), backRows())
}

// fullPast has as many families of before as there may be.
var fullPast = [][]int{{1}, {2}, {3}, {4}, {5}, {6}, {7}, {8}}

// nextPast has the families of before when one more has lain at a desk with fullPast: the first one is gone.
func nextPast(list ...int) [][]int {
	return [][]int{{2}, {3}, {4}, {5}, {6}, {7}, {8}, list}
}

// asBefore is a row in which nothing is done.
func asBefore(name string, before impl.Desk, kind, set int) doneRow {
	return doneRow{before, impl.Deed{Kind: kind, Set: set}, before, false, name}
}

func putRows() []doneRow {
	put := func(set int) impl.Deed { return impl.Deed{Kind: 0, Set: set} }
	six, seven := []int{15, 1, 2, 3, 4, 5}, []int{15, 1, 2, 3, 4, 5, 6}
	return []doneRow{
		{impl.Desk{Now: []int{3, 6}}, put(1), impl.Desk{Now: []int{3, 6, 1}, Past: [][]int{{3, 6}}}, true, "a set is put behind two"},
		{impl.Desk{Now: []int{15}}, put(1), impl.Desk{Now: []int{15, 1}, Past: [][]int{{15}}}, true, "a set is put behind one"},
		{impl.Desk{Now: []int{1}}, put(15), impl.Desk{Now: []int{1, 15}, Past: [][]int{{1}}}, true, "all points are put behind one"},
		{impl.Desk{Now: six}, put(6), impl.Desk{Now: seven, Past: [][]int{six}}, true, "the seventh set is put"},
		{impl.Desk{Now: []int{2}, Past: [][]int{{1}, {2, 3}}}, put(8), impl.Desk{Now: []int{2, 8}, Past: [][]int{{1}, {2, 3}, {2}}}, true, "the family of before is behind others"},
		{impl.Desk{Now: []int{9}, Past: fullPast[:7]}, put(8), impl.Desk{Now: []int{9, 8}, Past: append(slices.Clone(fullPast[:7]), []int{9})}, true, "the eighth family of before"},
		{impl.Desk{Now: []int{9}, Past: fullPast}, put(8), impl.Desk{Now: []int{9, 8}, Past: nextPast(9)}, true, "the ninth one: the first one is gone"},
		asBefore("a set is put twice", impl.Desk{Now: []int{3, 6}}, 0, 3),
		asBefore("the last set is put twice", impl.Desk{Now: []int{3, 6}, Past: fullPast}, 0, 6),
		asBefore("the only set is put twice", impl.Desk{Now: []int{3}, Past: [][]int{{1}}}, 0, 3),
		asBefore("one more than MaxThings", impl.Desk{Now: seven, Past: [][]int{{1}}}, 0, 7),
		asBefore("one of MaxThings twice", impl.Desk{Now: seven}, 0, 15),
		asBefore("the empty set is put", impl.Desk{Now: []int{3, 6}}, 0, 0),
		asBefore("the fifth point is put", impl.Desk{Now: []int{3, 6}}, 0, 16),
		asBefore("a negative set is put", impl.Desk{Now: []int{3, 6}, Past: fullPast}, 0, -1),
		asBefore("the least number is put", impl.Desk{Now: []int{3, 6}}, 0, math.MinInt),
		asBefore("the greatest number is put", impl.Desk{Now: []int{3, 6}}, 0, math.MaxInt),
	}
}

func takeRows() []doneRow {
	take := func(set int) impl.Deed { return impl.Deed{Kind: 1, Set: set} }
	seven := []int{15, 1, 2, 3, 4, 5, 6}
	return []doneRow{
		{impl.Desk{Now: []int{3, 6}}, take(3), impl.Desk{Now: []int{6}, Past: [][]int{{3, 6}}}, true, "the first of two is taken"},
		{impl.Desk{Now: []int{3, 6}}, take(6), impl.Desk{Now: []int{3}, Past: [][]int{{3, 6}}}, true, "the last of two is taken"},
		{impl.Desk{Now: []int{9, 3, 6}}, take(3), impl.Desk{Now: []int{9, 6}, Past: [][]int{{9, 3, 6}}}, true, "one between is taken: the order stays"},
		{impl.Desk{Now: seven}, take(15), impl.Desk{Now: seven[1:], Past: [][]int{seven}}, true, "the first of MaxThings is taken"},
		{impl.Desk{Now: []int{3, 6}, Past: fullPast}, take(6), impl.Desk{Now: []int{3}, Past: nextPast(3, 6)}, true, "the ninth family of before"},
		asBefore("the only set is taken", impl.Desk{Now: []int{3}}, 1, 3),
		asBefore("the only set is taken, with families of before", impl.Desk{Now: []int{3}, Past: fullPast}, 1, 3),
		asBefore("a set is taken that is not there", impl.Desk{Now: []int{3, 6}}, 1, 1),
		asBefore("a set is taken that was there before", impl.Desk{Now: []int{3, 6}, Past: [][]int{{3, 6, 1}}}, 1, 1),
		asBefore("another set is taken than the only one", impl.Desk{Now: []int{3}}, 1, 1),
		asBefore("the empty set is taken", impl.Desk{Now: []int{3, 6}}, 1, 0),
		asBefore("the fifth point is taken", impl.Desk{Now: []int{3, 6}}, 1, 16),
		asBefore("a negative set is taken", impl.Desk{Now: []int{3, 6}, Past: fullPast}, 1, -3),
		asBefore("the least number is taken", impl.Desk{Now: []int{3, 6}}, 1, math.MinInt),
	}
}

func completedRows() []doneRow {
	points, sums := impl.Deed{Kind: 2}, impl.Deed{Kind: 3}
	seven := []int{3, 5, 6, 9, 10, 12, 15}
	return []doneRow{
		{impl.Desk{Now: []int{3, 6}}, points, impl.Desk{Now: []int{3, 6, 1, 2, 4}, Past: [][]int{{3, 6}}}, true, "the points of ab and bc"},
		{impl.Desk{Now: []int{15, 4}}, points, impl.Desk{Now: []int{15, 4, 1, 2, 8}, Past: [][]int{{15, 4}}}, true, "the points of all, of which one is there"},
		{impl.Desk{Now: []int{9}, Past: fullPast}, points, impl.Desk{Now: []int{9, 1, 8}, Past: nextPast(9)}, true, "points, and the ninth family of before"},
		{impl.Desk{Now: []int{3, 6, 1, 2, 4}, Past: [][]int{{3, 6}}}, sums, impl.Desk{Now: []int{3, 6, 1, 2, 4, 5, 7}, Past: [][]int{{3, 6}, {3, 6, 1, 2, 4}}}, true, "the sums of ab, bc and their points"},
		{impl.Desk{Now: []int{6, 3}}, sums, impl.Desk{Now: []int{6, 3, 7}, Past: [][]int{{6, 3}}}, true, "the sum of bc and ab"},
		{impl.Desk{Now: []int{9, 2}, Past: fullPast}, sums, impl.Desk{Now: []int{9, 2, 11}, Past: nextPast(9, 2)}, true, "sums, and the ninth family of before"},
		asBefore("points that are all there", impl.Desk{Now: []int{3, 1, 2}}, 2, 0),
		asBefore("one point alone", impl.Desk{Now: []int{8}, Past: fullPast}, 2, 0),
		asBefore("points that would be more than MaxThings", impl.Desk{Now: []int{7, 11, 13, 14}, Past: [][]int{{1}}}, 2, 0),
		asBefore("points of MaxThings sets", impl.Desk{Now: seven}, 2, 0),
		asBefore("points with a set", impl.Desk{Now: []int{3, 6}}, 2, 1),
		asBefore("points with a negative set", impl.Desk{Now: []int{3, 6}}, 2, -1),
		asBefore("sums that are all there", impl.Desk{Now: []int{3, 6, 7}}, 3, 0),
		asBefore("the sum of one set", impl.Desk{Now: []int{6}, Past: fullPast}, 3, 0),
		asBefore("sums that would be more than MaxThings", impl.Desk{Now: []int{1, 2, 4, 8}, Past: [][]int{{1}}}, 3, 0),
		asBefore("sums of MaxThings sets", impl.Desk{Now: seven}, 3, 0),
		asBefore("sums with a set", impl.Desk{Now: []int{3, 6}}, 3, 7),
		asBefore("sums with the greatest number", impl.Desk{Now: []int{3, 6}}, 3, math.MaxInt),
	}
}

func backRows() []doneRow {
	back := impl.Deed{Kind: 4}
	return []doneRow{
		{impl.Desk{Now: []int{3}, Past: [][]int{{3, 6}}}, back, impl.Desk{Now: []int{3, 6}}, true, "back to the only family of before"},
		{impl.Desk{Now: []int{3}, Past: [][]int{{15}, {3, 6}}}, back, impl.Desk{Now: []int{3, 6}, Past: [][]int{{15}}}, true, "back to the last of two"},
		{impl.Desk{Now: []int{3}, Past: fullPast}, back, impl.Desk{Now: []int{8}, Past: fullPast[:7]}, true, "back to the eighth one"},
		{impl.Desk{Now: []int{3}, Past: [][]int{{3}}}, back, impl.Desk{Now: []int{3}}, true, "back to the same family, which is gone from those of before"},
		{impl.Desk{Now: []int{3}, Past: [][]int{{1, 2, 3, 4, 5, 6, 7}}}, back, impl.Desk{Now: []int{1, 2, 3, 4, 5, 6, 7}}, true, "back to MaxThings sets"},
		asBefore("back without any family of before", impl.Desk{Now: []int{3, 6}}, 4, 0),
		asBefore("back with a set", impl.Desk{Now: []int{3, 6}, Past: [][]int{{3}}}, 4, 3),
		asBefore("back with a negative set", impl.Desk{Now: []int{3, 6}, Past: fullPast}, 4, -1),
		asBefore("a kind past the end", impl.Desk{Now: []int{3, 6}, Past: [][]int{{3}}}, 5, 0),
		asBefore("a kind past the end with a set", impl.Desk{Now: []int{3, 6}, Past: [][]int{{3}}}, 5, 1),
		asBefore("a kind below 0", impl.Desk{Now: []int{3, 6}, Past: fullPast}, -1, 0),
		asBefore("a kind below 0 with a set", impl.Desk{Now: []int{3, 6}}, -1, 1),
		asBefore("the greatest number as a kind", impl.Desk{Now: []int{3, 6}}, math.MaxInt, 0),
		asBefore("the least number as a kind", impl.Desk{Now: []int{3, 6}}, math.MinInt, 0),
	}
}

func TestDoneRows(t *testing.T) {
	for _, r := range doneRows() {
		if want, done := deskAfter(r.before, r.a); !isDesk(r.before) || done != r.done || !sameDesk(want, r.after) {
			t.Errorf("%s: the row is wrong: %v and %v", r.name, want, done)
		}
		if got, done := impl.DeskDo(r.before, r.a); done != r.done || !sameDesk(got, r.after) {
			t.Errorf("%s: DeskDo(%v, %v) is %v and %v", r.name, r.before, r.a, got, done)
		}
	}
}

func TestDeedsDoneAsDefined(t *testing.T) {
	told := map[impl.Deed]int{}
	of := func(d impl.Desk, a impl.Deed) {
		want, done := deskAfter(d, a)
		if got, ok := impl.DeskDo(d, a); ok != done || !sameDesk(got, want) {
			t.Errorf("DeskDo(%v, %v) is %v and %v, not %v", d, a, got, ok, want)
		}
		if done {
			told[a]++
		}
	}
	for i, d := range desks() {
		for _, a := range deedsTold() {
			of(d, a.deed)
		}
		if i%97 == 0 {
			for _, a := range wrongDeeds() {
				of(d, a)
			}
		}
	}
	for _, a := range deedsTold() {
		if told[a.deed] == 0 || told[a.deed] == len(desks()) {
			t.Errorf("%s is done at so many desks: %d", a.text, told[a.deed])
		}
	}
	if len(told) != len(deedsTold()) {
		t.Error("so many deeds are done:", len(told))
	}
}

// putBack asks, after a deed that was done, and that did not put back itself, for what was there before.
func putBack(t *testing.T, d, after impl.Desk) {
	t.Helper()
	want := d
	if len(d.Past) == impl.MaxPast {
		want.Past = d.Past[1:]
	}
	if back, ok := impl.DeskDo(after, impl.Deed{Kind: impl.DkBack}); !ok || !sameDesk(back, want) {
		t.Errorf("after %v it is %v, and back %v and %v", d, after, back, ok)
	}
}

func TestPromise58(t *testing.T) {
	undone, not := map[int]int{}, 0 // undone by how many families of before there were
	for _, d := range desks() {
		for _, told := range deedsTold() {
			after, ok := impl.DeskDo(d, told.deed)
			if !impl.DeskOk(after) || !isDesk(after) {
				t.Fatalf("DeskDo(%v, %v) is %v", d, told.deed, after)
			}
			if !ok && !sameDesk(after, d) {
				t.Errorf("DeskDo(%v, %v) is %v and false", d, told.deed, after)
			}
			if ok && told.deed.Kind != impl.DkBack {
				putBack(t, d, after)
				undone[len(d.Past)]++
			}
			if !ok {
				not++
			}
		}
	}
	for length := range 9 {
		if undone[length] == 0 || not == 0 {
			t.Error("undone:", undone, "and not done:", not)
		}
	}
}

// TestPointsMakeStrong asks of families to which points can be put, and of those that have them.
func TestPointsMakeStrong(t *testing.T) {
	told := map[bool]int{}
	for _, d := range desks() {
		after, ok := impl.DeskDo(d, impl.Deed{Kind: impl.DkPoints})
		if !ok && len(withBehind(d.Now, pointsOf(d.Now))) == 0 {
			continue
		}
		if w := impl.WorldFrom(after.Now); !isWorld(w) || !impl.StrongOk(w) {
			t.Errorf("with points %v is %v and %v, which is not strong", d, after, ok)
		}
		told[ok]++
	}
	if told[true] == 0 || told[false] == 0 {
		t.Error("points that are put, and that are there:", told)
	}
}

// TestDeedsAreUndone does up to MaxPast deeds, and then as often puts back what was there.
func TestDeedsAreUndone(t *testing.T) {
	for _, in := range runs() {
		d := impl.Desk{Now: in.desk.Now}
		found := []impl.Desk{d}
		for _, a := range in.list {
			if after, ok := impl.DeskDo(d, a); ok && a.Kind != impl.DkBack && len(found) <= impl.MaxPast {
				d, found = after, append(found, after)
			}
		}
		for i := len(found) - 2; i >= 0; i-- {
			back, ok := impl.DeskDo(d, impl.Deed{Kind: impl.DkBack})
			if !ok || !sameDesk(back, found[i]) {
				t.Errorf("%v and %v: back it is %v and %v, not %v", in.desk, in.list, back, ok, found[i])
			}
			d = back
		}
		if back, ok := impl.DeskDo(d, impl.Deed{Kind: impl.DkBack}); ok || !sameDesk(back, found[0]) {
			t.Errorf("%v and %v: back to nothing it is %v and %v", in.desk, in.list, back, ok)
		}
	}
}

func TestRunRows(t *testing.T) {
	put, take := func(set int) impl.Deed { return impl.Deed{Kind: 0, Set: set} }, func(set int) impl.Deed { return impl.Deed{Kind: 1, Set: set} }
	points, sums, back := impl.Deed{Kind: 2}, impl.Deed{Kind: 3}, impl.Deed{Kind: 4}
	one, two := impl.Desk{Now: []int{1}}, impl.Desk{Now: []int{3, 6}}
	rows := []struct {
		before impl.Desk
		list   []impl.Deed
		after  impl.Desk
		count  int
		name   string
	}{
		{two, nil, two, 0, "no deeds"},
		{impl.Desk{Now: []int{1}, Past: fullPast}, []impl.Deed{}, impl.Desk{Now: []int{1}, Past: fullPast}, 0, "no deeds, with families of before"},
		{two, []impl.Deed{put(3), take(1), back, {Kind: 5}, {Kind: 2, Set: 1}}, two, 0, "nothing can be done"},
		{two, []impl.Deed{put(1), points, sums, points, back, take(6)}, impl.Desk{Now: []int{3, 1, 2, 4}, Past: [][]int{{3, 6}, {3, 6, 1}, {3, 6, 1, 2, 4}}}, 5, "points that change nothing are left out"},
		{two, []impl.Deed{take(3), take(6), back, back, back}, two, 2, "the last set is not taken, and back is left out when nothing is before"},
		{one, []impl.Deed{put(2), take(2), put(2), take(2)}, impl.Desk{Now: []int{1}, Past: [][]int{{1}, {1, 2}, {1}, {1, 2}}}, 4, "the same family lies there again"},
		{one, []impl.Deed{put(2), put(3), back, put(4)}, impl.Desk{Now: []int{1, 2, 4}, Past: [][]int{{1}, {1, 2}}}, 4, "something else behind back"},
		{one, slices.Repeat([]impl.Deed{put(2), take(2)}, 5), impl.Desk{Now: []int{1}, Past: [][]int{{1}, {1, 2}, {1}, {1, 2}, {1}, {1, 2}, {1}, {1, 2}}}, 10, "ten deeds: the first two families are gone"},
		{one, slices.Repeat([]impl.Deed{put(2), back}, 20), one, 40, "MaxLines deeds, there and back"},
		{one, slices.Repeat([]impl.Deed{take(1)}, 40), one, 0, "MaxLines deeds that cannot be done"},
		{one, slices.Concat([]impl.Deed{put(2)}, slices.Repeat([]impl.Deed{back}, 39)), one, 2, "MaxLines deeds, of which two can be done"},
		{one, []impl.Deed{put(2), put(4), put(8), sums, put(15), points, take(1), points}, impl.Desk{Now: []int{2, 4, 8, 15, 1}, Past: [][]int{{1}, {1, 2}, {1, 2, 4}, {1, 2, 4, 8}, {1, 2, 4, 8, 15}, {2, 4, 8, 15}}}, 6, "sums that would be too many are left out"},
	}
	for _, r := range rows {
		if all := desksAfter(r.before, r.list); !isDesk(r.before) || len(all) != r.count+1 || !sameDesk(all[r.count], r.after) {
			t.Errorf("%s: the row is wrong: %v", r.name, all)
		}
		if got, count := impl.DeskRun(r.before, r.list); count != r.count || !sameDesk(got, r.after) {
			t.Errorf("%s: DeskRun(%v, %v) is %v and %d", r.name, r.before, r.list, got, count)
		}
	}
}

func TestRunsAsDefined(t *testing.T) {
	found := map[int]int{} // by how many deeds were done
	for _, in := range runs() {
		all := desksAfter(in.desk, in.list)
		done := len(all) - 1
		if got, count := impl.DeskRun(in.desk, in.list); count != done || !sameDesk(got, all[done]) {
			t.Errorf("DeskRun(%v, %v) is %v and %d, not %v and %d", in.desk, in.list, got, count, all[done], done)
		}
		found[done]++
	}
	for done := range 12 {
		if found[done] == 0 {
			t.Error("no run has so many deeds that are done:", done)
		}
	}
}

func TestPromise59(t *testing.T) {
	for _, in := range runs() {
		whole, done := impl.DeskRun(in.desk, in.list)
		if !impl.DeskOk(whole) || !isDesk(whole) || done < 0 || done > len(in.list) {
			t.Fatalf("DeskRun(%v, %v) is %v and %d", in.desk, in.list, whole, done)
		}
		for i := 0; i <= len(in.list); i += 1 + len(in.list)/8 {
			middle, first := impl.DeskRun(in.desk, in.list[:i])
			end, second := impl.DeskRun(middle, in.list[i:])
			if !sameDesk(end, whole) || first+second != done {
				t.Errorf("DeskRun(%v, %v) is %v and %d, and in two parts at %d it is %v and %d", in.desk, in.list, whole, done, i, end, first+second)
			}
		}
	}
}

// TestRunsOfMaxLines asks of as many deeds as there may be at most, and of more: also of those that cannot be done.
func TestRunsOfMaxLines(t *testing.T) {
	next := byRule()
	for i, d := range someDesks() {
		for _, count := range []int{39, 40, 41, 42, 80, 41 + i} {
			for _, list := range [][]impl.Deed{deedsByRule(next, count), slices.Repeat([]impl.Deed{{Kind: 0, Set: d.Now[0]}}, count), make([]impl.Deed, count)} {
				got, done := impl.DeskRun(d, list)
				if count > 40 && (done != 0 || !isNothing(got)) {
					t.Errorf("DeskRun(%v, ..) of %d deeds is %v and %d", d, count, got, done)
				}
				if all := desksAfter(d, list); count <= 40 && (done != len(all)-1 || !sameDesk(got, all[done])) {
					t.Errorf("DeskRun(%v, %v) is %v and %d", d, list, got, done)
				}
			}
		}
	}
}

// noDesk asks all functions that are given a desk, of what they would do at one, and of what they would not.
func noDesk(t *testing.T, name string, d impl.Desk) {
	t.Helper()
	if isDesk(d) || impl.DeskOk(d) {
		t.Errorf("%s: DeskOk(%v) is true", name, d)
	}
	for _, told := range deedsTold() {
		if got, ok := impl.DeskDo(d, told.deed); ok || !isNothing(got) {
			t.Errorf("%s: DeskDo(%v, %v) is %v and %v", name, d, told.deed, got, ok)
		}
		if got, answer := impl.DeskLine(d, told.text); answer != "" || !isNothing(got) {
			t.Errorf("%s: DeskLine(%v, %q) is %v and %q", name, d, told.text, got, answer)
		}
	}
	for _, a := range wrongDeeds() {
		if got, ok := impl.DeskDo(d, a); ok || !isNothing(got) {
			t.Errorf("%s: DeskDo(%v, %v) is %v and %v", name, d, a, got, ok)
		}
	}
	for _, count := range []int{0, 1, 2, 40, 41} {
		if got, done := impl.DeskRun(d, slices.Repeat([]impl.Deed{{Kind: 4}}, count)); done != 0 || !isNothing(got) {
			t.Errorf("%s: DeskRun(%v, ..) is %v and %d", name, d, got, done)
		}
		if got, answers := impl.DeskSay(d, slices.Repeat([]string{"all"}, count)); len(answers) != 0 || !isNothing(got) {
			t.Errorf("%s: DeskSay(%v, ..) is %v and %v", name, d, got, answers)
		}
	}
	for _, line := range []string{"", "all", "company", "weak", "strong", "summed", "classical", "atoms", "whole", "sum a a", "common ab ab", "left ab a", "what", "sum a"} {
		if got, answer := impl.DeskLine(d, line); answer != "" || !isNothing(got) {
			t.Errorf("%s: DeskLine(%v, %q) is %v and %q", name, d, line, got, answer)
		}
		if got, answers := impl.DeskSay(d, []string{line}); len(answers) != 0 || !isNothing(got) {
			t.Errorf("%s: DeskSay(%v, %q) is %v and %v", name, d, line, got, answers)
		}
	}
}

func TestNoDesks(t *testing.T) {
	for name, d := range noDesks() {
		noDesk(t, name, d)
	}
	for length := 9; length <= 20; length++ {
		noDesk(t, "more than MaxPast", impl.Desk{Now: []int{3, 6}, Past: pastOf(length, length)})
	}
}

// TestDesksButForOneSet changes one set of a family of a desk.
func TestDesksButForOneSet(t *testing.T) {
	for _, set := range []int{0, -1, 16, 17, 31, power(32) + 1, math.MinInt, math.MinInt + 1, math.MaxInt} {
		now := []int{3, 6, 1}
		for i := range now {
			list := slices.Clone(now)
			list[i] = set
			noDesk(t, "a wrong set", impl.Desk{Now: list, Past: fullPast})
			for j := range fullPast {
				past := slices.Clone(fullPast)
				past[j] = list
				noDesk(t, "a wrong set before", impl.Desk{Now: now, Past: past})
			}
		}
	}
}

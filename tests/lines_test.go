package tests

import (
	"slices"
	"strings"
	"testing"

	"loop.example/partsandwholes/impl"
)

type lineRow struct {
	list   []int
	line   string
	answer string
}

func lineRows() []lineRow {
	return slices.Concat(wholeRows(), bothRows(), whatRows())
}

// wholeRows has questions of whole families.
func wholeRows() []lineRow {
	var all []lineRow
	for _, r := range []struct {
		list                                                         []int
		sets, company, weak, strong, summed, classical, atoms, whole string
	}{
		{[]int{1}, "a", "yes", "yes", "yes", "yes", "yes", "a", "a"},
		{[]int{15}, "abcd", "yes", "yes", "yes", "yes", "yes", "abcd", "abcd"},
		{[]int{3, 6}, "ab,bc", "yes", "yes", "yes", "no", "no", "ab,bc", "none"},
		{[]int{6, 3}, "bc,ab", "yes", "yes", "yes", "no", "no", "bc,ab", "none"},
		{[]int{1, 3}, "a,ab", "no", "no", "no", "yes", "no", "a", "ab"},
		{[]int{3, 1}, "ab,a", "no", "no", "no", "yes", "no", "a", "ab"},
		{[]int{7, 3, 1}, "abc,ab,a", "no", "no", "no", "yes", "no", "a", "abc"},
		{[]int{3, 2, 1}, "ab,b,a", "yes", "yes", "yes", "yes", "yes", "b,a", "ab"},
		{[]int{1, 2, 7, 3}, "a,b,abc,ab", "yes", "no", "no", "yes", "no", "a,b", "abc"},
		{[]int{1, 2, 7, 11}, "a,b,abc,abd", "yes", "yes", "no", "yes", "no", "a,b", "none"},
		{[]int{1, 3, 5}, "a,ab,ac", "no", "no", "no", "yes", "no", "a", "none"},
		{[]int{3, 6, 1, 2, 4}, "ab,bc,a,b,c", "yes", "yes", "yes", "no", "no", "a,b,c", "none"},
		{[]int{3, 6, 1, 2, 4, 5, 7}, "ab,bc,a,b,c,ac,abc", "yes", "yes", "yes", "yes", "yes", "a,b,c", "abc"},
		{[]int{7, 6, 5, 4, 3, 2, 1}, "abc,bc,ac,c,ab,b,a", "yes", "yes", "yes", "yes", "yes", "c,b,a", "abc"},
		{[]int{9, 15, 8, 13}, "ad,abcd,d,acd", "no", "no", "no", "yes", "no", "d", "abcd"},
	} {
		all = append(all, lineRow{r.list, "all", r.sets}, lineRow{r.list, "company", r.company}, lineRow{r.list, "weak", r.weak},
			lineRow{r.list, "strong", r.strong}, lineRow{r.list, "summed", r.summed}, lineRow{r.list, "classical", r.classical},
			lineRow{r.list, "atoms", r.atoms}, lineRow{r.list, "whole", r.whole})
	}
	return all
}

// bothRows has questions of two sets.
func bothRows() []lineRow {
	all, five, two, seven := []int{15}, []int{3, 6, 1, 2, 4}, []int{1, 2, 7, 11}, []int{7, 6, 5, 4, 3, 2, 1}
	return []lineRow{
		{all, "sum abcd abcd", "abcd"},
		{all, "common abcd abcd", "abcd"},
		{all, "left abcd abcd", "none"},
		{[]int{3, 6}, "sum ab bc", "none"},
		{[]int{3, 6}, "sum bc bc", "bc"},
		{[]int{3, 6}, "common ab bc", "none"},
		{[]int{3, 6}, "left ab bc", "ab"},
		{[]int{3, 6}, "left bc ab", "bc"},
		{[]int{3, 1}, "sum a a", "ab,a"},
		{[]int{1, 3}, "sum a ab", "a,ab"},
		{[]int{1, 3}, "common ab a", "a"},
		{[]int{1, 3}, "left ab a", "none"},
		{five, "sum a b", "ab"},
		{five, "sum b a", "ab"},
		{five, "sum a c", "none"},
		{five, "sum ab a", "ab"},
		{five, "common ab bc", "b"},
		{five, "common a b", "none"},
		{five, "left ab bc", "a"},
		{five, "left bc ab", "c"},
		{five, "left a b", "a"},
		{five, "left a ab", "none"},
		{two, "sum a b", "abc,abd"},
		{two, "common abc abd", "none"},
		{two, "left abc abd", "none"},
		{two, "left abd a", "b"},
		{seven, "sum a c", "ac"},
		{seven, "sum ab c", "abc"},
		{seven, "common ab ac", "a"},
		{seven, "left abc b", "ac"},
		{seven, "left abc a", "bc"},
		{seven, "left ab abc", "none"},
	}
}

// whatRows has lines that are answered by what.
func whatRows() []lineRow {
	var all []lineRow
	for _, line := range []string{
		"", " ", "\n", "what", "ok", "not", "none", "yes", "no", "help", "ab", "ab bc", "3", "\x00", "\xff", "\xff\xfe",
		"All", "ALL", "al", "alll", "all ", " all", "all\n", "all ab", "all\nall", "al l", "atom", "atoms a", "wholes", "whole ab", "whol",
		"companys", "compan", "Company", "weak ", "weakk", "Weak", " strong", "strong strong", "strongest", "sum", "summ", "summed ", "summed a b", "classic", "classical\r",
		"sum ", "sum ab", "sum ab ", "sum ab bc ", "sum ab bc a", "sum  ab bc", "sum ab  bc", " sum ab bc", "sum ab,bc", "sum\tab bc", "sum ab\tbc", "sum ab bc\n", "sum ab\nbc", "sumab bc", "sum abbc", "sums ab bc", "Sum ab bc",
		"sum ba bc", "sum ab cb", "sum aab bc", "sum AB bc", "sum e bc", "sum ab e", "sum ab abcd", "sum d ab", "sum ab ac", "sum none ab", "sum 0 1", "sum 3 6",
		"common", "common ", "common ab", "common ab bc ab", "common ab  bc", "common d d", "common ab ad", "commons ab bc", "commo ab bc", "Common ab bc", "common bc ab\x00", "common \xff ab",
		"left", "left ", "left ab", "left ab bc bc", "left  ab bc", "left abcd ab", "left ab d", "lef ab bc", "lefts ab bc", "LEFT ab bc", "left ab bc\r", "left\nab bc",
		"put", "put ", "put e", "put ba", "put  a", "put a ", "put a\n", "Put a", "put a b", "puta", "put none", "take", "take ", "take ab bc", "take ab ", " take ab", "take e", "tak ab",
		"points ", "points a", "point", "Points", "sums ", "sums a", "sumss", "sum s", "back ", "back a", "bac", "backs", " back", "back\n", "back\nback", "put a\nput b",
		strings.Repeat("sum ab ", 10000), "sum " + strings.Repeat(" ", 10000), strings.Repeat("a", 100000),
	} {
		all = append(all, lineRow{[]int{3, 6, 1, 2, 4}, line, "what"})
	}
	return all
}

func TestLineRows(t *testing.T) {
	for _, r := range lineRows() {
		for _, length := range []int{0, 1, 8} {
			d := impl.Desk{Now: r.list, Past: pastOf(length, 3)}
			if _, answer := answerAsDefined(d, answersOf(r.list), r.line); !isDesk(d) || answer != r.answer {
				t.Errorf("the row of %v and %q is wrong: %q", r.list, r.line, answer)
			}
			if got, answer := impl.DeskLine(d, r.line); answer != r.answer || !sameDesk(got, d) {
				t.Errorf("DeskLine(%v, %q) is %v and %q, not %q", d, r.line, got, answer, r.answer)
			}
		}
	}
}

// TestLinesThatAreDeeds says the texts of the deeds of rows.
func TestLinesThatAreDeeds(t *testing.T) {
	for _, r := range doneRows() {
		line := deedText(r.a)
		if line == "" {
			continue
		}
		want := map[bool]string{true: "ok", false: "not"}[r.done]
		if got, answer := impl.DeskLine(r.before, line); answer != want || !sameDesk(got, r.after) {
			t.Errorf("%s: DeskLine(%v, %q) is %v and %q", r.name, r.before, line, got, answer)
		}
	}
}

// allLines has all questions of a family, also those of sets that are not in it, and all texts of deeds.
func allLines(list []int) []string {
	lines := []string{"", "all", "company", "weak", "strong", "summed", "classical", "atoms", "whole"}
	for _, told := range deedsTold() {
		lines = append(lines, told.text)
	}
	some := append(slices.Clone(list), 1, 6, 15)
	for _, word := range []string{"sum", "common", "left"} {
		for _, first := range some {
			for _, second := range some {
				lines = append(lines, word+" "+setTexts[first]+" "+setTexts[second])
			}
		}
	}
	return lines
}

func TestLinesAsDefined(t *testing.T) {
	told := map[string]int{}
	for i, d := range desks() {
		if len(d.Now) > 3 && i%11 != 0 {
			continue
		}
		answers := answersOf(d.Now)
		for _, line := range allLines(d.Now) {
			want, answer := answerAsDefined(d, answers, line)
			if got, said := impl.DeskLine(d, line); said != answer || !sameDesk(got, want) {
				t.Errorf("DeskLine(%v, %q) is %v and %q, not %v and %q", d, line, got, said, want, answer)
			}
			told[answer]++
		}
	}
	for _, answer := range []string{"ok", "not", "yes", "no", "none", "what", "a", "abcd", "a,b", "a,ab"} {
		if told[answer] == 0 {
			t.Error("no line has the answer", answer)
		}
	}
}

// TestQuestionsOfAllFamilies asks all families the questions that name no set.
func TestQuestionsOfAllFamilies(t *testing.T) {
	for _, d := range desks() {
		answers := answersOf(d.Now)
		for _, line := range []string{"all", "company", "weak", "strong", "summed", "classical", "atoms", "whole"} {
			if got, said := impl.DeskLine(d, line); said != answers[line] || !sameDesk(got, d) {
				t.Errorf("DeskLine(%v, %q) is %v and %q, not %q", d, line, got, said, answers[line])
			}
		}
	}
}

// TestChangedLines changes each byte of lines.
func TestChangedLines(t *testing.T) {
	for _, d := range []impl.Desk{{Now: []int{1, 2, 3}}, {Now: []int{7, 1, 6, 8}, Past: pastOf(8, 2)}} {
		answers := answersOf(d.Now)
		for _, line := range allLines(d.Now) {
			for _, s := range changedTexts(line) {
				want, answer := answerAsDefined(d, answers, s)
				if got, said := impl.DeskLine(d, s); said != answer || !sameDesk(got, want) {
					t.Errorf("DeskLine(%v, %q) is %v and %q, not %v and %q", d, s, got, said, want, answer)
				}
			}
		}
	}
}

func TestPromise69(t *testing.T) {
	told := map[string]int{}
	for i, d := range desks() {
		if got, answer := impl.DeskLine(d, ""); answer != "what" || !sameDesk(got, d) {
			t.Errorf("an empty line to %v is answered by %q, and leads to %v", d, answer, got)
		}
		if i%31 != 0 {
			continue
		}
		for _, line := range allLines(d.Now) {
			got, answer := impl.DeskLine(d, line)
			if !impl.DeskOk(got) || !isDesk(got) || sameDesk(got, d) == (answer == "ok") {
				t.Fatalf("DeskLine(%v, %q) is %v and %q", d, line, got, answer)
			}
			_, read := impl.ReadJournal(line + "\n")
			if deed := read > 0; deed != (answer == "ok" || answer == "not") {
				t.Errorf("DeskLine(%v, %q) is %v and %q", d, line, got, answer)
			}
			told[answer]++
		}
	}
	if told["ok"] == 0 || told["not"] == 0 || told["what"] == 0 || told["none"] == 0 {
		t.Error("some answer is never given:", told)
	}
}

// exampleLines has the lines of the document's examples, for ab and bc, and their answers.
func exampleLines() [][2]string {
	return [][2]string{
		{"all", "ab,bc"},
		{"strong", "yes"},
		{"whole", "none"},
		{"points", "ok"},
		{"all", "ab,bc,a,b,c"},
		{"summed", "no"},
		{"common ab bc", "b"},
		{"left ab bc", "a"},
		{"sum a b", "ab"},
		{"sums", "ok"},
		{"classical", "yes"},
		{"whole", "abc"},
		{"left abc b", "ac"},
		{"take b", "ok"},
		{"weak", "no"},
	}
}

// columns has the lines, and the answers.
func columns(said [][2]string) (lines, answers []string) {
	for _, row := range said {
		lines, answers = append(lines, row[0]), append(answers, row[1])
	}
	return lines, answers
}

func TestExamples(t *testing.T) {
	d, ok := impl.DeskNew([]int{3, 6})
	lines, answers := columns(exampleLines())
	want := impl.Desk{Now: []int{3, 6, 1, 4, 5, 7}, Past: [][]int{{3, 6}, {3, 6, 1, 2, 4}, {3, 6, 1, 2, 4, 5, 7}}}
	if got, said := impl.DeskSay(d, lines); !ok || !slices.Equal(said, answers) || !sameDesk(got, want) {
		t.Errorf("the examples lead to %v and %q", got, said)
	}
}

func TestSaidRows(t *testing.T) {
	one, two := impl.Desk{Now: []int{1}}, impl.Desk{Now: []int{3, 6}}
	full := impl.Desk{Now: []int{1, 2}, Past: fullPast}
	rows := []struct {
		before impl.Desk
		said   [][2]string
		after  impl.Desk
		name   string
	}{
		{two, nil, two, "no lines"},
		{full, nil, full, "no lines, with families of before"},
		{two, [][2]string{{"", "what"}, {"all ", "what"}, {"put ab", "not"}, {"back", "not"}}, two, "nothing is done"},
		{one, [][2]string{{"take a", "not"}, {"put a", "not"}, {"points", "not"}, {"sums", "not"}, {"back", "not"}, {"all", "a"}}, one, "nothing can be done with a point alone"},
		{one, [][2]string{{"put b", "ok"}, {"put b", "not"}, {"sum a b", "none"}, {"put ab", "ok"}, {"sum a b", "ab"}, {"classical", "yes"}, {"back", "ok"}, {"sum a b", "none"}, {"back", "ok"}, {"sum a b", "what"}, {"sum a a", "a"}}, one, "a set is of the family, and no more of it"},
		{two, [][2]string{{"take ab", "ok"}, {"take bc", "not"}, {"all", "bc"}, {"common bc bc", "bc"}, {"common ab ab", "what"}, {"put ab", "ok"}, {"all", "bc,ab"}}, impl.Desk{Now: []int{6, 3}, Past: [][]int{{3, 6}, {6}}}, "the last set is not taken"},
		{full, [][2]string{{"sums", "ok"}, {"back", "ok"}, {"back", "ok"}, {"all", "d"}}, impl.Desk{Now: []int{8}, Past: fullPast[1:7]}, "the first family of before is gone"},
		{impl.Desk{Now: []int{1, 2, 4, 8}}, [][2]string{{"sums", "not"}, {"points", "not"}, {"put abcd", "ok"}, {"whole", "abcd"}, {"sum a b", "none"}, {"left abcd a", "none"}}, impl.Desk{Now: []int{1, 2, 4, 8, 15}, Past: [][]int{{1, 2, 4, 8}}}, "sums that would be more than MaxThings"},
		{one, slices.Repeat([][2]string{{"put b", "ok"}, {"back", "ok"}}, 20), one, "MaxLines lines"},
		{one, slices.Repeat([][2]string{{"all", "a"}}, 40), one, "MaxLines questions"},
		{one, slices.Repeat([][2]string{{"\n", "what"}}, 40), one, "MaxLines lines that are none"},
	}
	for _, r := range rows {
		lines, answers := columns(r.said)
		if want, told := saidAsDefined(r.before, lines); !isDesk(r.before) || !slices.Equal(told, answers) || !sameDesk(want, r.after) {
			t.Errorf("%s: the row is wrong: %v and %q", r.name, want, told)
		}
		if got, told := impl.DeskSay(r.before, lines); !slices.Equal(told, answers) || !sameDesk(got, r.after) {
			t.Errorf("%s: DeskSay(%v, %q) is %v and %q", r.name, r.before, lines, got, told)
		}
	}
}

// saying is a desk and lines of all kinds.
type saying struct {
	desk  impl.Desk
	lines []string
}

// sayings has none to MaxLines lines to each of some desks: deeds, questions, and some that are neither.
func sayings() []saying {
	next := byRule()
	var all []saying
	for i, d := range someDesks() {
		if i%2 == 1 {
			continue
		}
		some := append(allLines(d.Now), whatRows()[i%100].line, "sum", "put ba", " all")
		lines := make([]string, 0, i%41)
		for range i % 41 {
			line := some[next(len(some))]
			if next(2) == 0 {
				line = deedText(deedsByRule(next, 1)[0])
			}
			lines = append(lines, line)
		}
		all = append(all, saying{d, lines})
	}
	return all
}

func TestSayingsAsDefined(t *testing.T) {
	told := map[string]int{}
	for _, in := range sayings() {
		want, answers := saidAsDefined(in.desk, in.lines)
		if got, said := impl.DeskSay(in.desk, in.lines); !slices.Equal(said, answers) || !sameDesk(got, want) {
			t.Errorf("DeskSay(%v, %q) is %v and %q, not %v and %q", in.desk, in.lines, got, said, want, answers)
		}
		for _, answer := range answers {
			told[answer]++
		}
	}
	for _, answer := range []string{"ok", "not", "yes", "no", "none", "what"} {
		if told[answer] == 0 {
			t.Error("no line has the answer", answer)
		}
	}
}

// ownSum asks for what the first set of a family has in common with itself.
func ownSum(t *testing.T, d impl.Desk) {
	t.Helper()
	for _, word := range []string{"common", "sum"} {
		first := impl.SetText(d.Now[0])
		got, answers := impl.DeskSay(d, []string{word + " " + first + " " + first})
		own := len(answers) == 1 && answers[0] == first
		// A sum may be more than one thing, of which the set is one.
		if word == "sum" && len(answers) == 1 {
			own = slices.Contains(strings.Split(answers[0], ","), first)
		}
		if !own || !sameDesk(got, d) {
			t.Errorf("at %v the answer to %s of the first set is %q", d, word, answers)
		}
	}
}

func TestPromise61(t *testing.T) {
	for _, in := range sayings() {
		whole, answers := impl.DeskSay(in.desk, in.lines)
		if !impl.DeskOk(whole) || len(answers) != len(in.lines) || slices.Contains(answers, "") {
			t.Fatalf("DeskSay(%v, %q) is %v and %q", in.desk, in.lines, whole, answers)
		}
		for i := 0; i <= len(in.lines); i += 1 + len(in.lines)/8 {
			middle, first := impl.DeskSay(in.desk, in.lines[:i])
			end, second := impl.DeskSay(middle, in.lines[i:])
			if !sameDesk(end, whole) || !slices.Equal(slices.Concat(first, second), answers) {
				t.Errorf("DeskSay(%v, %q) is %v and %q, and in two parts at %d it is %v, %q and %q", in.desk, in.lines, whole, answers, i, end, first, second)
			}
		}
		ownSum(t, whole)
	}
	for _, d := range desks() {
		ownSum(t, d)
	}
}

// TestSayingsOfMaxLines asks of as many lines as there may be at most, and of more: also of those that do nothing.
func TestSayingsOfMaxLines(t *testing.T) {
	for i, d := range someDesks() {
		all := allLines(d.Now)
		for _, count := range []int{39, 40, 41, 42, 80, 41 + i} {
			for _, lines := range [][]string{slices.Repeat(all, 1+count/len(all))[:count], slices.Repeat([]string{"all"}, count), make([]string, count)} {
				got, answers := impl.DeskSay(d, lines)
				if count > 40 && (len(answers) != 0 || !isNothing(got)) {
					t.Errorf("DeskSay(%v, ..) of %d lines is %v and %q", d, count, got, answers)
				}
				if count <= 40 && (len(answers) != count || !isDesk(got) || slices.Contains(answers, "")) {
					t.Errorf("DeskSay(%v, %q) is %v and %q", d, lines, got, answers)
				}
			}
		}
	}
}

package tests

import (
	"slices"
	"strings"
	"testing"

	"loop.example/partsandwholes/impl"
)

func TestDeedTextsAsDefined(t *testing.T) {
	kinds := wrongNumbers(0, 4)
	all := slices.Concat(deedsWith(numbersFrom(-6, 9), numbersFrom(-40, 70)), deedsWith(kinds, []int{-1, 0, 1, 15, 16}), deedsWith([]int{0, 1, 2, 3, 4}, wrongNumbers(1, 15)), wrongDeeds())
	found := map[string]int{}
	for _, a := range all {
		got := impl.DeedText(a)
		if got != deedText(a) {
			t.Errorf("DeedText(%v) is %q, not %q", a, got, deedText(a))
		}
		found[got]++
	}
	if len(found) != 34 {
		t.Error("with that of none there are so many texts:", len(found))
	}
}

// deedReadAsDefined asks of a text what ReadDeed is to answer: the deed that has it, and nothing if none has.
func deedReadAsDefined(t *testing.T, s string) (is bool) {
	t.Helper()
	var want impl.Deed
	for _, told := range deedsTold() {
		if told.text == s {
			want, is = told.deed, true
		}
	}
	if got, ok := impl.ReadDeed(s); ok != is || got != want {
		t.Errorf("ReadDeed(%q) is %v and %v, not %v", s, got, ok, want)
	}
	return is
}

// changedTexts has a text without each of its bytes, with each of them twice, with each of some bytes in its place and ahead of it, and with these behind the text, and each beginning and end of it.
func changedTexts(s string) []string {
	some := "abcdeptP \n\t,\x00\xff"
	all := []string{s, strings.ToUpper(s), strings.ToUpper(s[:min(1, len(s))]) + s[min(1, len(s)):], s + s, s + "\n" + s, s + " " + s, "\n" + s + "\n"}
	for i := range len(s) {
		all = append(all, s[:i], s[i:], s[:i]+s[i+1:], s[:i]+s[i:i+1]+s[i:])
		for _, b := range []byte(some) {
			all = append(all, s[:i]+string([]byte{b})+s[i:], s[:i]+string([]byte{b})+s[i+1:])
		}
	}
	for _, b := range []byte(some) {
		all = append(all, s+string([]byte{b}))
	}
	return all
}

func TestReadDeedsAsDefined(t *testing.T) {
	read := map[bool]int{}
	for _, told := range deedsTold() {
		for _, s := range changedTexts(told.text) {
			read[deedReadAsDefined(t, s)]++
		}
	}
	words := []string{"", "put", "take", "points", "sums", "back", "all", "sum", "common", "ok", "not", "what", "pu", "puts", "0", "Put"}
	for _, word := range words {
		for _, between := range []string{"", " ", "  ", "\t", ",", "\n", "\x00"} {
			for _, set := range slices.Concat(setTexts, words, []string{"0", "1", "3", "ba", "aa", "AB", "e", "a b", " a", "a ", "b,a"}) {
				read[deedReadAsDefined(t, word+between+set)]++
			}
		}
	}
	for _, s := range []string{strings.Repeat("put ", 100000), "put " + strings.Repeat("a", 100000), strings.Repeat("\xff", 100000), strings.Repeat(" ", 100000)} {
		read[deedReadAsDefined(t, s)]++
	}
	if read[true] == 0 || read[false] == 0 {
		t.Error("texts of deeds, and of none:", read)
	}
}

func TestPromise66(t *testing.T) {
	for _, a := range slices.Concat(deedsWith(numbersFrom(-2, 6), numbersFrom(-2, 18)), wrongDeeds()) {
		text := impl.DeedText(a)
		if (text != "") != (deedText(a) != "") {
			t.Errorf("DeedText(%v) is %q", a, text)
		}
		if got, ok := impl.ReadDeed(text); ok != (text != "") || ok && got != a || !ok && got != (impl.Deed{}) {
			t.Errorf("the text of %v is %q, which is read as %v and %v", a, text, got, ok)
		}
	}
}

// noDeedTexts has texts of no deeds, by what is wrong with them.
func noDeedTexts() map[string]string {
	return map[string]string{
		"nothing":                  "",
		"a space":                  " ",
		"a newline":                "\n",
		"put without a set":        "put",
		"put and a space":          "put ",
		"put and two spaces":       "put  ab",
		"put without a space":      "putab",
		"put and a tab":            "put\tab",
		"put and a comma":          "put,ab",
		"put of two sets":          "put ab bc",
		"put of no set":            "put e",
		"put of the empty set":     "put none",
		"put of a number":          "put 3",
		"letters out of order":     "put ba",
		"a letter twice":           "put aa",
		"capital letters":          "put AB",
		"a capital word":           "PUT ab",
		"a capital letter first":   "Put ab",
		"a word that is cut":       "pu ab",
		"a word that goes on":      "puts ab",
		"a space ahead":            " put ab",
		"a space behind":           "put ab ",
		"a newline behind":         "put ab\n",
		"a newline ahead":          "\nput ab",
		"a newline for a space":    "put\nab",
		"a newline between":        "put a\nb",
		"a return behind":          "put ab\r",
		"a zero byte behind":       "put ab\x00",
		"a byte that is no letter": "put \xff",
		"take without a set":       "take",
		"take and a space":         "take ",
		"take of no set":           "take xyz",
		"take cut":                 "tak ab",
		"points with a set":        "points ab",
		"points and a space":       "points ",
		"points cut":               "point",
		"points that go on":        "pointss",
		"points with a newline":    "points\n",
		"a space ahead of points":  " points",
		"capital points":           "POINTS",
		"sums with a set":          "sums a",
		"sums and a space":         "sums ",
		"sums cut":                 "sum",
		"a question":               "sum a b",
		"back with a set":          "back abcd",
		"back and a space":         "back ",
		"back and two spaces":      "back  ",
		"back with a number":       "back 0",
		"back cut":                 "bac",
		"back twice":               "back back",
		"a set alone":              "ab",
		"bytes that are no words":  "\xff\xfe ab",
	}
}

func TestPromise67(t *testing.T) {
	for _, told := range deedsTold() {
		a, ok := impl.ReadDeed(told.text)
		if !ok || impl.DeedText(a) != told.text {
			t.Errorf("%q is read as %v and %v, of which the text is %q", told.text, a, ok, impl.DeedText(a))
		}
		if a, ok := impl.ReadDeed(told.text + " "); ok || a != (impl.Deed{}) {
			t.Errorf("%q with a space behind it is read as %v and %v", told.text, a, ok)
		}
	}
	for name, text := range noDeedTexts() {
		if a, ok := impl.ReadDeed(text); ok || a != (impl.Deed{}) {
			t.Errorf("%s: %q is read as %v and %v", name, text, a, ok)
		}
		// Ahead of a newline of its own a text may yet have a line that is a deed.
		if list, read := impl.ReadJournal(text + "\n"); !strings.Contains(text, "\n") && (len(list) != 0 || read != 0) {
			t.Errorf("%s: of %q and a newline %v is read, and so many bytes: %d", name, text, list, read)
		}
	}
}

type journalRow struct {
	text string
	list []impl.Deed
	read int
	name string
}

func journalRows() []journalRow {
	ab, points, sums, back := impl.Deed{Kind: 0, Set: 3}, impl.Deed{Kind: 2}, impl.Deed{Kind: 3}, impl.Deed{Kind: 4}
	return []journalRow{
		{"", nil, 0, "the empty text"},
		{"\n", nil, 0, "an empty line"},
		{"put ab\n", []impl.Deed{ab}, 7, "one deed"},
		{"put ab", nil, 0, "a deed without a newline"},
		{"put ab\nback\nsums", []impl.Deed{ab, back}, 12, "the last of three deeds without a newline"},
		{"put ab\nback\nsums\n", []impl.Deed{ab, back, sums}, 17, "three deeds"},
		{"back\nback\nback\n", []impl.Deed{back, back, back}, 15, "the same deed again"},
		{"\nput ab\n", nil, 0, "an empty line ahead"},
		{"put ab\n\nback\n", []impl.Deed{ab}, 7, "an empty line between"},
		{"put ab\n\n", []impl.Deed{ab}, 7, "an empty line behind"},
		{"put ab\nput ba\nback\n", []impl.Deed{ab}, 7, "a line between that is no deed"},
		{"put ab\nall\nback\n", []impl.Deed{ab}, 7, "a question between"},
		{"put ab \nback\n", nil, 0, "a space ahead of a newline"},
		{"put ab\n back\n", []impl.Deed{ab}, 7, "a space behind a newline"},
		{"put ab\r\nback\n", nil, 0, "a return ahead of a newline"},
		{"put\nab\n", nil, 0, "a newline within a deed"},
		{"points\nput\n", []impl.Deed{points}, 7, "a word without its set"},
		{"points\nsums\nback\ntake abcd\n", []impl.Deed{points, sums, back, {Kind: 1, Set: 15}}, 27, "a deed of each other kind"},
		{"points\nPoints\n", []impl.Deed{points}, 7, "a capital letter"},
		{"points\n\x00", []impl.Deed{points}, 7, "a zero byte behind"},
		{"points\n\xff\nback\n", []impl.Deed{points}, 7, "a line of a byte that is no letter"},
		{"\xff\npoints\n", nil, 0, "such a line first"},
		{strings.Repeat("back\n", 1000), slices.Repeat([]impl.Deed{back}, 1000), 5000, "more deeds than MaxLines"},
		{strings.Repeat("back", 1000), nil, 0, "a long line"},
	}
}

// journalToldAs asks for the deeds of a text, and how many bytes were read.
func journalToldAs(t *testing.T, name, text string, list []impl.Deed, read int) {
	t.Helper()
	if got, bytes := impl.ReadJournal(text); bytes != read || !slices.Equal(got, list) {
		t.Errorf("%s: of %q %v is read, and so many bytes: %d, not %v and %d", name, text, got, bytes, list, read)
	}
}

func TestJournalRows(t *testing.T) {
	for _, r := range journalRows() {
		if list, read := journalAsDefined(r.text); read != r.read || !slices.Equal(list, r.list) {
			t.Errorf("%s: the row is wrong: %v and %d", r.name, list, read)
		}
		journalToldAs(t, r.name, r.text, r.list, r.read)
		if got := impl.JournalText(r.list); got != r.text[:r.read] {
			t.Errorf("%s: the text of %v is %q", r.name, r.list, got)
		}
	}
}

// journals has texts of no deeds to 60, and deeds of which each has a text.
func journals() []run {
	next, some := byRule(), someDesks()
	var all []run
	for count := range 61 {
		all = append(all, run{some[count*3], deedsByRule(next, count)})
	}
	return all
}

// written puts the texts of deeds together, each with a newline.
func written(list []impl.Deed) string {
	text := ""
	for _, a := range list {
		text += deedText(a) + "\n"
	}
	return text
}

func TestJournalTextsAsDefined(t *testing.T) {
	for _, in := range journals() {
		if got, want := impl.JournalText(in.list), written(in.list); got != want {
			t.Errorf("JournalText(%v) is %q, not %q", in.list, got, want)
		}
		for i, wrong := range wrongDeeds() {
			place := i % (len(in.list) + 1)
			list := slices.Insert(slices.Clone(in.list), place, wrong)
			if got := impl.JournalText(list); got != "" {
				t.Errorf("JournalText(%v) is %q", list, got)
			}
		}
	}
}

// TestJournalsAsDefined changes each byte of texts.
func TestJournalsAsDefined(t *testing.T) {
	texts := []string{"put ab\nback\nsums", "points\nput a\ntake a\nback\n", "all\n", "back\n\n"}
	for _, in := range journals()[:8] {
		texts = append(texts, written(in.list))
	}
	for _, text := range texts {
		for _, s := range changedTexts(text) {
			list, read := journalAsDefined(s)
			journalToldAs(t, "a changed text", s, list, read)
		}
	}
}

func TestPromise68(t *testing.T) {
	for _, in := range journals() {
		text := impl.JournalText(in.list)
		if (text == "") != (len(in.list) == 0) {
			t.Errorf("JournalText(%v) is %q", in.list, text)
		}
		journalToldAs(t, "a journal", text, in.list, len(text))
	}
	for _, told := range deedsTold() {
		for _, other := range deedsTold() {
			list := []impl.Deed{told.deed, other.deed}
			text := impl.JournalText(list)
			if text != told.text+"\n"+other.text+"\n" {
				t.Errorf("JournalText(%v) is %q", list, text)
			}
			journalToldAs(t, "two deeds", text, list, len(text))
		}
	}
}

// saidLineByLine asks whether the lines of a text lead to the desk to which the deeds lead, and whether this is the desk of before that is found behind so many deeds.
func saidLineByLine(t *testing.T, d impl.Desk, text string, list []impl.Deed, before []impl.Desk) {
	t.Helper()
	said, answers := impl.DeskSay(d, strings.Split(strings.TrimSuffix(text, "\n"), "\n"))
	if len(list) == 0 {
		said, answers = impl.DeskSay(d, nil)
	}
	after, done := impl.DeskRun(d, list)
	ok := 0
	for _, answer := range answers {
		if answer == "ok" {
			ok++
		}
	}
	if !sameDesk(said, after) || ok != done || len(answers) != len(list) || !sameDesk(after, before[done]) {
		t.Errorf("at %v %q leads to %v and %v, and %v to %v and %d", d, text, said, answers, list, after, done)
	}
}

func TestPromise60(t *testing.T) {
	few := 0
	for _, in := range journals() {
		text, before := impl.JournalText(in.list), desksAfter(in.desk, in.list)
		for end := range len(text) + 1 {
			list, read := impl.ReadJournal(text[:end])
			whole := strings.Count(text[:end], "\n")
			if len(list) != whole || !slices.Equal(list, in.list[:whole]) || read != strings.LastIndex(text[:end], "\n")+1 {
				t.Fatalf("of %q %v is read, and so many bytes: %d", text[:end], list, read)
			}
			if impl.JournalText(list) != text[:read] {
				t.Errorf("of %q is read what has the text %q", text[:end], impl.JournalText(list))
			}
			if read == end && len(list) <= impl.MaxLines {
				saidLineByLine(t, in.desk, text[:read], list, before)
				few++
			}
		}
	}
	if few == 0 {
		t.Error("no journal has at most MaxLines")
	}
}

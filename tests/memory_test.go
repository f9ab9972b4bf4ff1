package tests

import (
	"slices"
	"testing"

	"loop.example/partsandwholes/impl"
)

// deskOverwritten writes to all memory of a desk, spare or not.
func deskOverwritten(d impl.Desk) {
	overwritten(d.Now)
	past := d.Past[:cap(d.Past)]
	for i := range past {
		overwritten(past[i])
		past[i] = []int{92}
	}
}

// deskCopied is made list by list.
func deskCopied(d impl.Desk) impl.Desk {
	copied := impl.Desk{Now: slices.Clone(d.Now)}
	for _, list := range d.Past {
		copied.Past = append(copied.Past, slices.Clone(list))
	}
	return copied
}

// roomyDesk is the same desk, with other numbers and families in the memory behind each of its lists.
func roomyDesk(d impl.Desk) impl.Desk {
	roomy := func(list []int) []int { return append(slices.Clone(list), 91, 92, 93)[:len(list)] }
	past := make([][]int, 0, len(d.Past)+2)
	for _, list := range d.Past {
		past = append(past, roomy(list))
	}
	return impl.Desk{Now: roomy(d.Now), Past: append(past, []int{91}, []int{92})[:len(d.Past)]}
}

// stillRoomy asks whether a desk made by roomyDesk is as it was, also behind its lists.
func stillRoomy(d, before impl.Desk) bool {
	behind := func(list []int) bool { return slices.Equal(list[len(list):len(list)+3], []int{91, 92, 93}) }
	others := d.Past[len(d.Past) : len(d.Past)+2]
	return sameDesk(d, before) && behind(d.Now) && !slices.ContainsFunc(d.Past, func(list []int) bool { return !behind(list) }) &&
		slices.Equal(others[0], []int{91}) && slices.Equal(others[1], []int{92})
}

// deskWays has a function for each way that leads from a desk to one: with and without a change.
func deskWays() map[string]func(impl.Desk) impl.Desk {
	ways := map[string]func(impl.Desk) impl.Desk{
		"DeskNew":            func(d impl.Desk) impl.Desk { got, _ := impl.DeskNew(d.Now); return got },
		"DeskRun of nothing": func(d impl.Desk) impl.Desk { got, _ := impl.DeskRun(d, nil); return got },
		"DeskSay of nothing": func(d impl.Desk) impl.Desk { got, _ := impl.DeskSay(d, nil); return got },
	}
	for _, a := range []impl.Deed{{Kind: 0, Set: 1}, {Kind: 0, Set: 12}, {Kind: 1, Set: 1}, {Kind: 1, Set: 6}, {Kind: 2}, {Kind: 3}, {Kind: 4}, {Kind: 4, Set: 1}, {Kind: 5}, {Kind: 0, Set: 16}} {
		ways["DeskDo "+deedText(a)] = func(d impl.Desk) impl.Desk { got, _ := impl.DeskDo(d, a); return got }
		ways["DeskRun "+deedText(a)] = func(d impl.Desk) impl.Desk { got, _ := impl.DeskRun(d, []impl.Deed{a, {Kind: 2}, a}); return got }
	}
	for _, line := range []string{"", "all", "weak", "atoms", "sum a a", "put a", "put cd", "take a", "take bc", "points", "sums", "back", "back "} {
		ways["DeskLine "+line] = func(d impl.Desk) impl.Desk { got, _ := impl.DeskLine(d, line); return got }
		ways["DeskSay "+line] = func(d impl.Desk) impl.Desk {
			got, _ := impl.DeskSay(d, []string{line, "all", "back", line})
			return got
		}
	}
	return ways
}

// roomyDesks has desks of one to seven sets, with none to MaxPast families of before.
func roomyDesks() []impl.Desk {
	all := []impl.Desk{{Now: []int{1, 2, 3, 4, 5, 6, 7}, Past: fullPast}, {Now: []int{1}}, {Now: []int{15}, Past: [][]int{{15}}}}
	for i, r := range familyRows() {
		all = append(all, impl.Desk{Now: r.list, Past: pastOf(i%9, i)})
	}
	return all
}

// TestDesksAreNew writes to a result and then to the argument, and asks whether other results are as before.
func TestDesksAreNew(t *testing.T) {
	for name, way := range deskWays() {
		for _, d := range roomyDesks() {
			given := roomyDesk(d)
			first, second := way(given), way(given)
			want := deskCopied(first)
			deskOverwritten(first)
			if third := way(given); !stillRoomy(given, d) || !sameDesk(second, want) || !sameDesk(third, want) {
				t.Errorf("%s: of %v it is %v, and then %v and %v", name, d, want, second, third)
			}
			deskOverwritten(given)
			if !sameDesk(second, want) {
				t.Errorf("%s: the result is written to with the argument: %v", name, second)
			}
		}
	}
}

// listsAlone writes to the memory of each list of a desk, and asks whether all others are as before. The first list is Now.
func listsAlone(t *testing.T, name string, made func() impl.Desk) {
	t.Helper()
	want := made()
	for i := range len(want.Past) + 1 {
		d := made()
		found, left := append([][]int{d.Now}, d.Past...), append([][]int{want.Now}, want.Past...)
		overwritten(found[i])
		for _, spare := range d.Past[len(d.Past):cap(d.Past)] {
			overwritten(spare)
		}
		if !slices.EqualFunc(slices.Delete(found, i, i+1), slices.Delete(left, i, i+1), slices.Equal) {
			t.Errorf("%s: of %v others are written to with the list %d: %v", name, want, i, d)
		}
	}
}

// TestListsOfDesksAreAlone asks also of desks whose families of before are one list in memory, and that which lies there, too.
func TestListsOfDesksAreAlone(t *testing.T) {
	for name, way := range deskWays() {
		for _, d := range roomyDesks() {
			listsAlone(t, name, func() impl.Desk { return way(roomyDesk(d)) })
			for length := range 9 {
				one := impl.Desk{Now: d.Now, Past: slices.Repeat([][]int{d.Now}, length)}
				listsAlone(t, name+", all the same", func() impl.Desk { return way(one) })
				if !isFamily(d.Now) || !sameDesk(one, impl.Desk{Now: d.Now, Past: slices.Repeat([][]int{slices.Clone(d.Now)}, length)}) {
					t.Fatalf("%s: the argument is written to: %v", name, one)
				}
			}
		}
	}
}

// TestDeedsAndLinesAreNotWritten has other deeds and lines in the memory behind those that are given.
func TestDeedsAndLinesAreNotWritten(t *testing.T) {
	for _, in := range append(journals(), run{impl.Desk{}, wrongDeeds()}, run{impl.Desk{Now: []int{1}}, make([]impl.Deed, 41)}) {
		deeds := append(slices.Clone(in.list), impl.Deed{Kind: 0, Set: 8}, impl.Deed{Kind: 9}, impl.Deed{Kind: 4})
		before, short := slices.Clone(deeds), deeds[:len(in.list)]
		x, count := impl.DeskRun(in.desk, short)
		y, other := impl.DeskRun(in.desk, in.list)
		if count != other || !sameDesk(x, y) || impl.JournalText(short) != impl.JournalText(in.list) {
			t.Errorf("%v: what follows it is read", in.list)
		}
		if !slices.Equal(deeds, before) {
			t.Errorf("%v is written to: %v", before, deeds)
		}
	}
	for _, in := range append(sayings(), saying{impl.Desk{}, []string{"all"}}, saying{impl.Desk{Now: []int{1}}, make([]string, 41)}) {
		lines := append(slices.Clone(in.lines), "put d", "back", "what")
		before := slices.Clone(lines)
		x, answers := impl.DeskSay(in.desk, lines[:len(in.lines)])
		y, others := impl.DeskSay(in.desk, in.lines)
		if !sameDesk(x, y) || !slices.Equal(answers, others) {
			t.Errorf("%q: what follows it is read", in.lines)
		}
		for i := range answers[:cap(answers)] {
			answers[:cap(answers)][i] = "all"
		}
		if z, again := impl.DeskSay(in.desk, in.lines); !slices.Equal(lines, before) || !slices.Equal(again, others) || !sameDesk(z, y) {
			t.Errorf("%q is written to: %q, or %q is not as before: %q", before, lines, others, again)
		}
	}
}

func TestReadDeedsAreNew(t *testing.T) {
	for _, in := range journals() {
		text := written(in.list)
		first, _ := impl.ReadJournal(text)
		second, _ := impl.ReadJournal(text)
		clear(first[:cap(first)])
		third, _ := impl.ReadJournal(text)
		if !slices.Equal(second, in.list) || !slices.Equal(third, in.list) {
			t.Errorf("of %q is read %v, and then %v", text, second, third)
		}
	}
}

// TestDesksAreNotKept says lines to other desks, and to none, in between.
func TestDesksAreNotKept(t *testing.T) {
	some := sayings()
	for i, in := range some {
		d, answers := impl.DeskSay(in.desk, in.lines)
		want := deskCopied(d)
		for _, other := range []saying{some[(i+7)%len(some)], some[(i+100)%len(some)], {impl.Desk{}, in.lines}, {in.desk, slices.Repeat([]string{"put d"}, 41)}} {
			impl.DeskSay(other.desk, other.lines)
			impl.DeskDo(other.desk, impl.Deed{Kind: 4})
			impl.DeskRun(other.desk, []impl.Deed{{Kind: 2}, {Kind: 3}, {Kind: 0, Set: 9}})
			impl.ReadJournal("put ab\nback\npu")
			if got, said := impl.DeskSay(in.desk, in.lines); !sameDesk(d, want) || !sameDesk(got, want) || !slices.Equal(said, answers) {
				t.Errorf("DeskSay(%v, %q) is %v and %q, and was %v and %q", in.desk, in.lines, got, said, want, answers)
			}
		}
	}
}

// TestDesksOfNow changes a desk and lines in their memory between two calls.
func TestDesksOfNow(t *testing.T) {
	d := impl.Desk{Now: make([]int, 0, 7), Past: make([][]int, 0, 8)}
	lines := make([]string, 0, 40)
	for _, in := range sayings() {
		d.Now, d.Past, lines = append(d.Now[:0], in.desk.Now...), append(d.Past[:0], in.desk.Past...), append(lines[:0], in.lines...)
		want, answers := saidAsDefined(in.desk, in.lines)
		if got, said := impl.DeskSay(d, lines); !sameDesk(got, want) || !slices.Equal(said, answers) {
			t.Errorf("DeskSay(%v, %q) is %v and %q", d, lines, got, said)
		}
	}
}

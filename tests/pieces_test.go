package tests

import (
	"slices"
	"sync"
	"testing"

	"loop.example/partsandwholes/impl"
)

// pieceTruth is what chapter 9 answers of a thing of a ground.
type pieceTruth struct {
	together      bool
	pieces, holes []int
	filled, cut   int
}

// noTruth is the answer for what is no thing of a ground.
var noTruth = pieceTruth{filled: -1, cut: -1}

func (told pieceTruth) same(other pieceTruth) bool {
	return told.together == other.together && slices.Equal(told.pieces, other.pieces) &&
		slices.Equal(told.holes, other.holes) && told.filled == other.filled && told.cut == other.cut
}

type pieceRow struct {
	g    []int
	a    int
	want pieceTruth
	name string
}

func piecesTold(g []int, a int) pieceTruth {
	return pieceTruth{impl.TogetherOk(g, a), impl.PiecesOf(g, a), impl.HolesOf(g, a), impl.FilledOf(g, a), impl.CutAt(g, a)}
}

func piecesAsDefined(near nearness, a []int) pieceTruth {
	holes := near.holes(a)
	truth := pieceTruth{near.together(a), near.pieces(a), holes, both(setOf(a), togetherOf(holes)), -1}
	if truth.together && len(a) > 1 {
		truth.cut = setOf(near.cutAt(a))
	}
	return truth
}

// groundInPieces has a ground with all that is answered of its things in chapters 8 and 9.
type groundInPieces struct {
	groundTold
	of []pieceTruth // by the set
}

// groundsInPieces asks but once, for all tests.
var groundsInPieces = sync.OnceValue(func() []groundInPieces {
	var all []groundInPieces
	for _, told := range groundsTold() {
		in := groundInPieces{groundTold: told}
		for a := range told.all() + 1 {
			in.of = append(in.of, piecesTold(told.g, a))
		}
		all = append(all, in)
	}
	return all
})

// hangs asks whether all places of the ground hang together.
func (in groundInPieces) hangs() bool {
	return in.of[in.all()].together
}

func pieceRows() []pieceRow {
	return slices.Concat(smallPieceRows(), linePieceRows(), ringPieceRows(), largePieceRows(), mixedPieceRows())
}

func smallPieceRows() []pieceRow {
	alone, two, three := []int{0, 0}, []int{2, 1}, []int{0, 4, 2}
	return []pieceRow{
		{[]int{0}, 1, pieceTruth{true, []int{1}, nil, 1, -1}, "one place, which is all"},
		{alone, 1, pieceTruth{true, []int{1}, []int{2}, 3, -1}, "one of two places that are no neighbours: the other one is a hole"},
		{alone, 2, pieceTruth{true, []int{2}, nil, 2, -1}, "the other one of them: the place 0 is no hole"},
		{alone, 3, pieceTruth{false, []int{1, 2}, nil, 3, -1}, "both, which do not hang together"},
		{two, 1, pieceTruth{true, []int{1}, []int{2}, 3, -1}, "one of two neighbours"},
		{two, 2, pieceTruth{true, []int{2}, nil, 2, -1}, "the other one of them"},
		{two, 3, pieceTruth{true, []int{3}, nil, 3, 0}, "two neighbours, none of which is a cut"},
		{three, 1, pieceTruth{true, []int{1}, []int{6}, 7, -1}, "a place alone beside two neighbours"},
		{three, 2, pieceTruth{true, []int{2}, []int{4}, 6, -1}, "one of two neighbours beside a place alone"},
		{three, 3, pieceTruth{false, []int{1, 2}, []int{4}, 7, -1}, "a place alone and one of two neighbours"},
		{three, 6, pieceTruth{true, []int{6}, nil, 6, 0}, "two neighbours beside a place alone"},
		{three, 7, pieceTruth{false, []int{1, 6}, nil, 7, -1}, "all of a ground that does not hang together"},
	}
}

// linePieceRows has rows of four places in line: 0, 1, 2 and 3; and of seven.
func linePieceRows() []pieceRow {
	g, long := []int{2, 5, 10, 4}, []int{2, 5, 10, 20, 40, 80, 32}
	return []pieceRow{
		{g, 1, pieceTruth{true, []int{1}, []int{14}, 15, -1}, "the first one: all others are a hole"},
		{g, 2, pieceTruth{true, []int{2}, []int{12}, 14, -1}, "a place between: what is behind it is a hole"},
		{g, 8, pieceTruth{true, []int{8}, nil, 8, -1}, "the last one: the others have the place 0"},
		{g, 3, pieceTruth{true, []int{3}, []int{12}, 15, 0}, "the first half"},
		{g, 12, pieceTruth{true, []int{12}, nil, 12, 0}, "the last half"},
		{g, 6, pieceTruth{true, []int{6}, []int{8}, 14, 0}, "what is between the ends"},
		{g, 9, pieceTruth{false, []int{1, 8}, []int{6}, 15, -1}, "both ends"},
		{g, 5, pieceTruth{false, []int{1, 4}, []int{2, 8}, 15, -1}, "each other place: two holes"},
		{g, 10, pieceTruth{false, []int{2, 8}, []int{4}, 14, -1}, "the others of them: one hole"},
		{g, 11, pieceTruth{false, []int{3, 8}, []int{4}, 15, -1}, "a half and an end"},
		{g, 13, pieceTruth{false, []int{1, 12}, []int{2}, 15, -1}, "an end and a half"},
		{g, 7, pieceTruth{true, []int{7}, []int{8}, 15, 2}, "all but the last one"},
		{g, 14, pieceTruth{true, []int{14}, nil, 14, 4}, "all but the first one"},
		{g, 15, pieceTruth{true, []int{15}, nil, 15, 6}, "all, of which two are no cuts"},
		{long, 127, pieceTruth{true, []int{127}, nil, 127, 62}, "all of seven, of which two are no cuts"},
		{long, 8, pieceTruth{true, []int{8}, []int{112}, 120, -1}, "the place in the midst of seven"},
		{long, 28, pieceTruth{true, []int{28}, []int{96}, 124, 8}, "three in the midst of seven"},
		{long, 42, pieceTruth{false, []int{2, 8, 32}, []int{4, 16, 64}, 126, -1}, "odd ones of seven: three holes"},
		{long, 85, pieceTruth{false, []int{1, 4, 16, 64}, []int{2, 8, 32}, 127, -1}, "even ones of seven: four pieces"},
		{long, 99, pieceTruth{false, []int{3, 96}, []int{28}, 127, -1}, "two at each end of seven"},
	}
}

func ringPieceRows() []pieceRow {
	five, seven := []int{18, 5, 10, 20, 9}, groundInRing(7)
	return []pieceRow{
		{[]int{10, 5, 10, 5}, 15, pieceTruth{true, []int{15}, nil, 15, 0}, "all of four, none of which is a cut"},
		{[]int{10, 5, 10, 5}, 10, pieceTruth{false, []int{2, 8}, []int{4}, 14, -1}, "two of four that are across: the place 0 is cut off, and is no hole"},
		{five, 31, pieceTruth{true, []int{31}, nil, 31, 0}, "all of five, none of which is a cut"},
		{five, 30, pieceTruth{true, []int{30}, nil, 30, 12}, "all of five but the first one"},
		{five, 19, pieceTruth{true, []int{19}, []int{12}, 31, 1}, "the first one of five with both neighbours"},
		{five, 10, pieceTruth{false, []int{2, 8}, []int{4}, 14, -1}, "two of five that are no neighbours"},
		{five, 5, pieceTruth{false, []int{1, 4}, []int{2, 24}, 31, -1}, "two such ones, the first one of five among them: two holes"},
		{seven, 127, pieceTruth{true, []int{127}, nil, 127, 0}, "all of seven, none of which is a cut"},
		{seven, 126, pieceTruth{true, []int{126}, nil, 126, 60}, "all of seven but the first one"},
		{seven, 73, pieceTruth{false, []int{65, 8}, []int{6, 48}, 127, -1}, "the piece with the least place is first, and it has the greatest one, too"},
		{seven, 65, pieceTruth{true, []int{65}, []int{62}, 127, 0}, "the last and the first one of seven"},
	}
}

func largePieceRows() []pieceRow {
	alone, each, star := groundWithout(7), groundOfEach(7), groundAround(7)
	return []pieceRow{
		{alone, 1, pieceTruth{true, []int{1}, []int{2, 4, 8, 16, 32, 64}, 127, -1}, "seven without neighbours: the first one, and six holes"},
		{alone, 64, pieceTruth{true, []int{64}, []int{2, 4, 8, 16, 32}, 126, -1}, "seven without neighbours: the last one, and five holes"},
		{alone, 126, pieceTruth{false, []int{2, 4, 8, 16, 32, 64}, nil, 126, -1}, "seven without neighbours: all but the first one"},
		{alone, 127, pieceTruth{false, []int{1, 2, 4, 8, 16, 32, 64}, nil, 127, -1}, "seven without neighbours: all"},
		{each, 1, pieceTruth{true, []int{1}, []int{126}, 127, -1}, "seven neighbours: the first one"},
		{each, 64, pieceTruth{true, []int{64}, nil, 64, -1}, "seven neighbours: the last one"},
		{each, 84, pieceTruth{true, []int{84}, nil, 84, 0}, "seven neighbours: three of them"},
		{each, 127, pieceTruth{true, []int{127}, nil, 127, 0}, "seven neighbours: all, none of which is a cut"},
		{star, 1, pieceTruth{true, []int{1}, []int{2, 4, 8, 16, 32, 64}, 127, -1}, "around the first: it, and six holes"},
		{star, 2, pieceTruth{true, []int{2}, nil, 2, -1}, "around the first: another one"},
		{star, 65, pieceTruth{true, []int{65}, []int{2, 4, 8, 16, 32}, 127, 0}, "around the first: it and the last one"},
		{star, 35, pieceTruth{true, []int{35}, []int{4, 8, 16, 64}, 127, 1}, "around the first: it and two others"},
		{star, 126, pieceTruth{false, []int{2, 4, 8, 16, 32, 64}, nil, 126, -1}, "around the first: all but it"},
		{star, 127, pieceTruth{true, []int{127}, nil, 127, 1}, "around the first: all, of which it is the one cut"},
	}
}

// mixedPieceRows has, among others, a ring of five (1 to 5) around the place 6, with the place 0 outside.
func mixedPieceRows() []pieceRow {
	around := []int{2, 101, 74, 84, 104, 82, 62}
	bow := []int{6, 5, 27, 20, 12}
	apart := []int{0, 64, 0, 16, 8, 0, 2}
	return []pieceRow{
		{around, 62, pieceTruth{true, []int{62}, []int{64}, 126, 0}, "a ring around a place: it is the hole"},
		{around, 63, pieceTruth{true, []int{63}, []int{64}, 127, 2}, "the ring with what is outside"},
		{around, 126, pieceTruth{true, []int{126}, nil, 126, 0}, "the ring with the place in it, filled"},
		{around, 60, pieceTruth{true, []int{60}, nil, 60, 24}, "the ring without a place: the hole is open"},
		{around, 64, pieceTruth{true, []int{64}, nil, 64, -1}, "the place in the ring"},
		{around, 65, pieceTruth{false, []int{1, 64}, []int{62}, 127, -1}, "what is outside, and what is in the ring"},
		{around, 127, pieceTruth{true, []int{127}, nil, 127, 2}, "all: what is outside has one neighbour"},
		{bow, 31, pieceTruth{true, []int{31}, nil, 31, 4}, "two rings of three with a common place"},
		{bow, 27, pieceTruth{false, []int{3, 24}, []int{4}, 31, -1}, "the same without the common place"},
		{bow, 4, pieceTruth{true, []int{4}, []int{24}, 28, -1}, "the common place alone"},
		{apart, 1, pieceTruth{true, []int{1}, []int{66, 4, 24, 32}, 127, -1}, "holes in ascending order of their least places"},
		{apart, 126, pieceTruth{false, []int{66, 4, 24, 32}, nil, 126, -1}, "pieces in the same order"},
		{apart, 66, pieceTruth{true, []int{66}, []int{4, 24, 32}, 126, 0}, "two neighbours far from each other in number"},
	}
}

func TestPieceRows(t *testing.T) {
	for _, r := range pieceRows() {
		near, _ := nearnessOf(r.g)
		if want := piecesAsDefined(near, members(r.a)); !isGround(r.g) || !want.same(r.want) {
			t.Errorf("%s: the row of %v and %d is wrong: %v", r.name, r.g, r.a, want)
		}
		if got := piecesTold(r.g, r.a); !got.same(r.want) {
			t.Errorf("%s: of %v and %d it is %v, not %v", r.name, r.g, r.a, got, r.want)
		}
	}
}

func TestPiecesAsDefined(t *testing.T) {
	for _, in := range groundsInPieces() {
		near, _ := nearnessOf(in.g)
		for _, a := range in.things() {
			if want := piecesAsDefined(near, members(a)); !in.of[a].same(want) {
				t.Errorf("%v: of %d it is %v, not %v", in.g, a, in.of[a], want)
			}
		}
		if !in.of[0].same(noTruth) {
			t.Errorf("%v: of the empty set it is %v", in.g, in.of[0])
		}
	}
}

// TestGroundsThatHangTogetherAreAll counts all grounds of up to six places: those that hang together, those of them without a cut, and those in which all places but two are cuts, which are all lines.
func TestGroundsThatHangTogetherAreAll(t *testing.T) {
	together := []int{1, 1, 4, 38, 728, 26704}
	without := []int{0, 1, 1, 10, 238, 11368}
	lines := []int{0, 1, 3, 12, 60, 360}
	for n := 1; n <= 6; n++ {
		got := [3]int{}
		for set := range power(n * (n - 1) / 2) {
			g, all := groundOfPairs(n, set), power(n)-1
			pieces := impl.PiecesOf(g, all)
			if impl.TogetherOk(g, all) != (len(pieces) == 1) || togetherOf(pieces) != all {
				t.Errorf("%v: all has the pieces %v", g, pieces)
			}
			if !impl.TogetherOk(g, all) {
				continue
			}
			got[0]++
			cut := impl.CutAt(g, all)
			if cut == 0 {
				got[1]++
			}
			if cut >= 0 && len(members(cut)) == n-2 {
				got[2]++
			}
		}
		if want := [3]int{together[n-1], without[n-1], lines[n-1]}; got != want {
			t.Errorf("of %d places there are %v, not %v", n, got, want)
		}
	}
}

// ofEachPart has all parts of a thing that are not all of it, and none of them empty.
func ofEachPart(a int, do func(part int)) {
	for part := 1; part < a; part++ {
		if part&^a == 0 {
			do(part)
		}
	}
}

func TestPromise41(t *testing.T) {
	together, cut := 0, 0
	for _, in := range groundsInPieces() {
		for p := range in.g {
			if !in.of[power(p)].together {
				t.Errorf("%v: the place %d does not hang together", in.g, p)
			}
		}
		for _, a := range in.things() {
			each := true
			ofEachPart(a, func(part int) { each = each && in.touch(part, a&^part) })
			if in.of[a].together != each {
				t.Errorf("%v: TogetherOk of %d is %v", in.g, a, in.of[a].together)
			}
			if each {
				together++
			} else {
				cut++
			}
		}
	}
	if together == 0 || cut == 0 {
		t.Error("together:", together, "and not:", cut)
	}
}

// somePieceHas asks whether a part is within one of the pieces of a thing.
func (in groundInPieces) somePieceHas(a, part int) bool {
	return slices.ContainsFunc(in.of[a].pieces, func(piece int) bool { return part&^piece == 0 })
}

func TestPromise42(t *testing.T) {
	one, more := 0, 0
	for _, in := range groundsInPieces() {
		for _, a := range in.things() {
			pieces := in.of[a].pieces
			for i, piece := range pieces {
				if piece < 1 || piece > in.all() || !in.of[piece].together {
					t.Fatalf("%v: the pieces of %d are %v", in.g, a, pieces)
				}
				for _, other := range pieces[:i] {
					if in.touch(piece, other) || in.touch(other, piece) || members(other)[0] >= members(piece)[0] {
						t.Errorf("%v: the pieces of %d are %v, among them %d and %d", in.g, a, pieces, other, piece)
					}
				}
			}
			if togetherOf(pieces) != a || in.of[a].together != (len(pieces) == 1) {
				t.Errorf("%v: the pieces of %d are %v", in.g, a, pieces)
			}
			ofEachPart(a, func(part int) {
				if in.of[part].together && !in.somePieceHas(a, part) {
					t.Errorf("%v: the pieces of %d are %v, and none has %d, which hangs together", in.g, a, pieces, part)
				}
			})
			if len(pieces) == 1 {
				one++
			} else {
				more++
			}
		}
	}
	if one == 0 || more == 0 {
		t.Error("of one piece:", one, "and of more:", more)
	}
}

func TestPromise43(t *testing.T) {
	found := map[int]int{} // by how many holes there are
	apart := 0             // holes that do not touch the thing, in grounds that do not hang together
	for _, in := range groundsInPieces() {
		for _, a := range in.things() {
			holes := in.of[a].holes
			found[len(holes)]++
			for _, hole := range holes {
				if hole < 1 || hole > in.all() || !in.of[hole].together || hole&a != 0 || inSet(hole, 0) {
					t.Fatalf("%v: the holes of %d are %v", in.g, a, holes)
				}
				if in.hangs() && !in.outside(hole, a) {
					t.Errorf("%v: the hole %d does not touch %d from outside", in.g, hole, a)
				}
				if !in.outside(hole, a) {
					apart++
				}
			}
			// With the piece that has the place 0 there are all pieces of what is left.
			left := in.of[in.all()&^a].pieces
			if len(left) > 0 && inSet(left[0], 0) {
				left = left[1:]
			}
			if !slices.Equal(holes, left) {
				t.Errorf("%v: the holes of %d are %v, not %v", in.g, a, holes, left)
			}
		}
	}
	for holes := range 7 {
		if found[holes] == 0 {
			t.Error("no thing has so many holes:", holes)
		}
	}
	if apart == 0 {
		t.Error("each hole touches the thing, in each ground")
	}
}

func TestPromise44(t *testing.T) {
	same, more, apart := 0, 0, 0
	for _, in := range groundsInPieces() {
		for _, a := range in.things() {
			filled := in.of[a].filled
			if filled < 1 || filled > in.all() || filled != both(a, togetherOf(in.of[a].holes)) {
				t.Fatalf("%v: FilledOf %d is %d", in.g, a, filled)
			}
			if again := in.of[filled]; len(again.holes) > 0 || again.filled != filled {
				t.Errorf("%v: FilledOf %d is %d, and this has the holes %v", in.g, a, filled, again.holes)
			}
			if in.hangs() && in.of[a].together && !in.of[filled].together {
				t.Errorf("%v: %d hangs together, and FilledOf it, %d, does not", in.g, a, filled)
			}
			if in.of[a].together && !in.of[filled].together {
				apart++
			}
			if filled == a {
				same++
			} else {
				more++
			}
		}
	}
	if same == 0 || more == 0 || apart == 0 {
		t.Error("as before:", same, "and more:", more, "and in grounds that do not hang together:", apart)
	}
}

func TestPromise45(t *testing.T) {
	without, all, some := 0, 0, 0 // by how many places are cuts
	for _, in := range groundsInPieces() {
		for _, a := range in.things() {
			cut, size := in.of[a].cut, len(members(a))
			if !in.of[a].together || size == 1 {
				if cut != -1 {
					t.Errorf("%v: CutAt of %d is %d", in.g, a, cut)
				}
				continue
			}
			if cut < 0 || cut&^a != 0 || len(members(a&^cut)) < 2 {
				t.Fatalf("%v: CutAt of %d is %d", in.g, a, cut)
			}
			for _, p := range members(a) {
				rest := in.of[a-power(p)]
				if inSet(cut, p) != (len(rest.pieces) >= 2) || inSet(cut, p) == rest.together {
					t.Errorf("%v: CutAt of %d is %d, and without %d there are the pieces %v", in.g, a, cut, p, rest.pieces)
				}
			}
			switch {
			case cut == 0:
				without++
			case len(members(cut)) == size-2:
				all++
			default:
				some++
			}
		}
	}
	if without == 0 || all == 0 || some == 0 {
		t.Error("without a cut:", without, "all but two are cuts:", all, "and some of them:", some)
	}
}

// placesAlone has the set of each place of a set alone.
func placesAlone(set int) []int {
	return pointsOf([]int{set})
}

func TestPiecesWithoutNeighbours(t *testing.T) {
	for n := 1; n <= 7; n++ {
		g, all := groundWithout(n), power(n)-1
		for a := 1; a <= all; a++ {
			holes := placesAlone(all - both(a, 1)) // the place 0 is never one
			want := pieceTruth{len(members(a)) == 1, placesAlone(a), holes, a + togetherOf(holes), -1}
			if got := piecesTold(g, a); !got.same(want) {
				t.Errorf("%v: of %d it is %v, not %v", g, a, got, want)
			}
		}
	}
}

func TestPiecesOfGroundsOfEach(t *testing.T) {
	for n := 1; n <= 7; n++ {
		g, all := groundOfEach(n), power(n)-1
		for a := 1; a <= all; a++ {
			want := pieceTruth{true, []int{a}, nil, a, 0}
			if inSet(a, 0) && a < all {
				want.holes, want.filled = []int{all - a}, all
			}
			if len(members(a)) == 1 {
				want.cut = -1
			}
			if got := piecesTold(g, a); !got.same(want) {
				t.Errorf("%v: of %d it is %v, not %v", g, a, got, want)
			}
		}
	}
}

// TestPiecesInLine asks of all that is from one place to another one.
func TestPiecesInLine(t *testing.T) {
	for n := 1; n <= 7; n++ {
		g, all := groundInLine(n), power(n)-1
		for first := range n {
			for last := first; last < n; last++ {
				a := power(last+1) - power(first)
				want := pieceTruth{true, []int{a}, nil, all + 1 - power(first), a - power(first) - power(last)}
				if last < n-1 {
					want.holes = []int{all + 1 - power(last+1)}
				}
				if first == last {
					want.cut = -1
				}
				if got := piecesTold(g, a); !got.same(want) {
					t.Errorf("%v: of %d it is %v, not %v", g, a, got, want)
				}
			}
		}
	}
}

// noPieces asks of a set that is no thing, or of a ground that is none.
func noPieces(t *testing.T, name string, g []int, set int) {
	t.Helper()
	if got := piecesTold(g, set); !got.same(noTruth) {
		t.Errorf("%s: of %v and %d it is %v", name, g, set, got)
	}
}

// TestPiecesOfNoGrounds asks of sets that would be things, were it a ground. Other tests ask noPieces, too, of grounds with one wrong set.
func TestPiecesOfNoGrounds(t *testing.T) {
	for name, g := range noGrounds() {
		for set := -2; set <= 300; set++ {
			noPieces(t, name, g, set)
		}
	}
}

func TestPiecesOfNoThings(t *testing.T) {
	for n := 1; n <= 7; n++ {
		for name, g := range groundShapes(n) {
			for _, set := range noSets(n) {
				noPieces(t, name, g, set)
			}
			for set := power(n); set <= 300; set++ {
				noPieces(t, name, g, set)
				noPieces(t, name, g, -set)
			}
		}
	}
}

// TestCutAtOfOthers asks of things of one place, and of things that do not hang together, which have pieces all the same.
func TestCutAtOfOthers(t *testing.T) {
	rows := []struct {
		g    []int
		a    int
		name string
	}{
		{[]int{0}, 1, "one place, which is all"},
		{[]int{2, 1}, 2, "one of two neighbours"},
		{groundOfEach(7), 64, "one of seven neighbours"},
		{groundWithout(2), 3, "two places that are no neighbours"},
		{groundInLine(3), 5, "two ends"},
		{groundInLine(7), 119, "all of a line but one in its midst"},
		{groundInPairs(4), 15, "all of two pairs"},
		{groundWithout(7), 127, "all of seven without neighbours"},
		{groundAround(7), 126, "all but the place that holds them together"},
	}
	for _, r := range rows {
		if got := impl.CutAt(r.g, r.a); got != -1 {
			t.Errorf("%s: CutAt(%v, %d) is %d", r.name, r.g, r.a, got)
		}
		if pieces := impl.PiecesOf(r.g, r.a); togetherOf(pieces) != r.a {
			t.Errorf("%s: PiecesOf(%v, %d) is %v", r.name, r.g, r.a, pieces)
		}
	}
}

// TestPiecesAreNotKept asks of other grounds, and of none, in between.
func TestPiecesAreNotKept(t *testing.T) {
	for _, r := range pieceRows() {
		for _, other := range pieceRows() {
			piecesTold(other.g, other.a)
			piecesTold(nil, 1)
			piecesTold([]int{1}, 1)
			if got := piecesTold(r.g, r.a); !got.same(r.want) {
				t.Errorf("%s: it is not as before behind %s: %v", r.name, other.name, got)
			}
		}
	}
}

// TestPiecesReadTheGroundOfNow changes a ground between two calls.
func TestPiecesReadTheGroundOfNow(t *testing.T) {
	g := groundWithout(7)
	for _, in := range groundsInPieces() {
		if len(in.g) != len(g) {
			continue
		}
		copy(g, in.g)
		for _, set := range in.things() {
			if got := piecesTold(g, set); !got.same(in.of[set]) {
				t.Errorf("%v: of %d it is %v, and was %v", g, set, got, in.of[set])
			}
		}
	}
}

// TestPieceResultsAreNew writes to a result and then to the argument, and asks whether other results are as before.
func TestPieceResultsAreNew(t *testing.T) {
	for _, r := range pieceRows() {
		for _, of := range []func([]int, int) []int{impl.PiecesOf, impl.HolesOf} {
			g := append(slices.Clone(r.g), 91, 92, 93)[:len(r.g)]
			first, second := of(g, r.a), of(g, r.a)
			before := slices.Clone(first)
			overwritten(first)
			if third := of(g, r.a); !slices.Equal(g, r.g) || !slices.Equal(second, before) || !slices.Equal(third, before) {
				t.Errorf("%s: of %v it is %v, and then %v and %v", r.name, g, before, second, third)
			}
			overwritten(g)
			if !slices.Equal(second, before) {
				t.Errorf("%s: the result is written to with the ground: %v", r.name, second)
			}
		}
	}
}

func TestPiecesWriteNothing(t *testing.T) {
	writesNothing(t, func(short, g []int, set int) bool {
		return piecesTold(short, set).same(piecesTold(g, set))
	})
}

package impl

// MaxThings is the maximum number of things of a world.
const MaxThings = 7

// WorldOk reports whether there are 1..MaxThings things, for each the set of all its parts, told by the sum of 2 to the power of each of their numbers, from 0 on, so that each thing is a part of itself, no two things are parts of each other, and all parts of a part are parts.
func WorldOk(w []int) bool {
	_, ok := worldOf(w)
	return ok
}

// PartOk reports whether in a world (WorldOk) a thing a is a part of a thing b; false for others.
func PartOk(w []int, a int, b int) bool {
	in, ok := worldWith(w, a, b)
	return ok && in.part(a, b)
}

// ProperOk reports whether in a world a thing a is a part of a thing b, and another one than it (PartOk); false for others.
func ProperOk(w []int, a int, b int) bool {
	in, ok := worldWith(w, a, b)
	return ok && in.proper(a, b)
}

// OverlapOk reports whether in a world (WorldOk) something is a part of both of two things; false for others.
func OverlapOk(w []int, a int, b int) bool {
	in, ok := worldWith(w, a, b)
	return ok && in.overlap(a, b)
}

// WholesOf returns the set of all things of which a thing is a part, in a world (PartOk); -1 for others.
func WholesOf(w []int, a int) int {
	in, ok := worldWith(w, a)
	if !ok {
		return -1
	}
	return int(in.wholes(a))
}

// MeetingSet returns the set of all things that overlap a thing, in a world (OverlapOk); -1 for others.
func MeetingSet(w []int, a int) int {
	in, ok := worldWith(w, a)
	if !ok {
		return -1
	}
	return int(in.meeting(a))
}

// DeepOf returns how many things there are at most of which each is a proper part of the next one (ProperOk), in a world (WorldOk); -1 for others.
func DeepOf(w []int) int {
	in, ok := worldOf(w)
	if !ok {
		return -1
	}
	deep := 0
	for a := range in {
		deep = max(deep, in.chainTo(a))
	}
	return deep
}

// bitSet is any type that tells a set of numbers, from 0 on, by the sum of 2 to the power of each of them.
type bitSet interface{ ~int }

// things is a set of things of a world.
type things int

// world has the set of parts of each thing. Only worldOf makes one, so that its methods need not ask again whether it is one.
type world []things

func has[S bitSet](set S, number int) bool {
	return set>>number&1 == 1
}

func within[S bitSet](set S, other S) bool {
	return set&^other == 0
}

// partsOfParts reports whether each set has, with a number, all numbers of the set at it.
func partsOfParts[S bitSet](sets []S) bool {
	for _, whole := range sets {
		for part, parts := range sets {
			if has(whole, part) && !within(parts, whole) {
				return false
			}
		}
	}
	return true
}

// worldOf copies the sets, so that nothing of the argument is kept.
func worldOf(w []int) (world, bool) {
	if len(w) < 1 || len(w) > MaxThings {
		return nil, false
	}
	in := make(world, len(w))
	for a, parts := range w {
		in[a] = things(parts)
	}
	if !in.numbersOk() || !in.itselfOk() || !in.orderOk() || !partsOfParts(in) {
		return nil, false
	}
	return in, true
}

func worldWith(w []int, numbers ...int) (world, bool) {
	in, ok := worldOf(w)
	if !ok {
		return nil, false
	}
	for _, a := range numbers {
		if a < 0 || a >= len(in) {
			return nil, false
		}
	}
	return in, true
}

func (in world) all() things {
	return 1<<len(in) - 1
}

// numbersOk refuses negative numbers, too: these have their sign's bit, which is no thing.
func (in world) numbersOk() bool {
	for _, parts := range in {
		if !within(parts, in.all()) {
			return false
		}
	}
	return true
}

func (in world) itselfOk() bool {
	for a := range in {
		if !in.part(a, a) {
			return false
		}
	}
	return true
}

func (in world) orderOk() bool {
	for b := range in {
		for a := range b {
			if in.part(a, b) && in.part(b, a) {
				return false
			}
		}
	}
	return true
}

func (in world) part(a int, b int) bool {
	return has(in[b], a)
}

func (in world) proper(a int, b int) bool {
	return a != b && in.part(a, b)
}

func (in world) overlap(a int, b int) bool {
	return in[a]&in[b] != 0
}

func (in world) wholes(a int) things {
	return in.those(func(b int) bool { return in.part(a, b) })
}

func (in world) meeting(a int) things {
	return in.those(func(b int) bool { return in.overlap(a, b) })
}

func (in world) those(asked func(int) bool) things {
	set := things(0)
	for b := range in {
		if asked(b) {
			set |= 1 << b
		}
	}
	return set
}

// chainTo returns how long a chain of proper parts may be that ends with a thing. It ends, since in a world no thing is a proper part of itself, over others or not.
func (in world) chainTo(b int) int {
	deep := 0
	for a := range in {
		if in.proper(a, b) {
			deep = max(deep, in.chainTo(a))
		}
	}
	return deep + 1
}

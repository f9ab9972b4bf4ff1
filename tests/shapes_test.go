package tests

import (
	"math"
	"slices"

	"loop.example/partsandwholes/impl"
)

// kindTruth tells for each kind, from 0 on, whether a world is of it.
type kindTruth [6]bool

func kindsTold(w []int) kindTruth {
	var told kindTruth
	for kind := range told {
		told[kind] = impl.KindOk(w, kind)
	}
	return told
}

// kindsAsDefined asks a relation, and nothing of the program.
func kindsAsDefined(w []int) kindTruth {
	if !isWorld(w) {
		return kindTruth{}
	}
	r, _ := relationOf(w)
	is := supplementsAsDefined(w)
	return kindTruth{true, is.company, is.weak, is.strong, is.extended, r.strong() && r.summed()}
}

func countsAsDefined(n int) [6]int {
	var counts [6]int
	for _, w := range worldsAsDefined(n) {
		for kind, is := range kindsAsDefined(w) {
			if is {
				counts[kind]++
			}
		}
	}
	return counts
}

// ordersOf has all orders of so many things: 1, 2, 6 and 24 of one to four.
func ordersOf(n int) [][]int {
	var all [][]int
	lists(n, 0, n-1, func(order []int) {
		if len(planksOf(order)) == n {
			all = append(all, order)
		}
	})
	return all
}

// inOrder has a world with its things in an order: the first one is the thing of the first number, and so on.
func inOrder(w, order []int) []int {
	r, _ := relationOf(w)
	other := make([]int, len(w))
	for b := range order {
		for a := range order {
			if r[order[a]][order[b]] {
				other[b] += power(a)
			}
		}
	}
	return other
}

// sameShape asks whether the things of the one, in some order, are parts of each other just as those of the other one are.
func sameShape(w, other []int) bool {
	if len(w) != len(other) {
		return false
	}
	return slices.ContainsFunc(ordersOf(len(w)), func(order []int) bool {
		return slices.Equal(inOrder(w, order), other)
	})
}

// shapeAsDefined goes through all worlds in their order, and has the first one of the same shape.
func shapeAsDefined(w []int, all [][]int) []int {
	first := slices.IndexFunc(all, func(other []int) bool { return sameShape(w, other) })
	return all[first]
}

// before asks whether of the first two sets that differ that of the one is the lesser one.
func before(w, other []int) bool {
	for a := range w {
		if w[a] != other[a] {
			return w[a] < other[a]
		}
	}
	return false
}

// partsInAll has how many parts all things have.
func partsInAll(w []int) int {
	count := 0
	for _, parts := range w {
		count += len(members(parts))
	}
	return count
}

// wrongNumbers has numbers below those from a lowest to a greatest one, and above them.
func wrongNumbers(low, high int) []int {
	wrong := []int{math.MinInt, math.MinInt + 1, math.MinInt + low, math.MinInt + high, -power(32), 1 - power(32), power(31), power(32), power(32) + low, power(32) + high, power(62), math.MaxInt - 1, math.MaxInt}
	return slices.Concat(numbersFrom(-70, low-1), numbersFrom(high+1, 300), wrong)
}

package reel

import (
	"iter"
	"slices"

	"bioscope/api"
)

// set tells of each number of a reel, or of a place, whether it is meant.
type set [api.ReelReels]bool

// scenes are those from the first one on that are before the one behind; the zero value has none.
// This suffices for the scenes with which a reel can end: with its least beginning each later end can be.
type scenes struct{ first, behind int }

// step is a reel, and the scenes with which the one before it can end.
type step struct {
	reel   int
	before scenes
}

func (s set) list() []int {
	var list []int
	for i := range len(s) {
		if s[i] {
			list = append(list, i)
		}
	}
	return list
}

// anywhere is what is known before the first reel: it can begin with each scene.
func anywhere() scenes { return scenes{0, api.ReelScene + 1} }

// after returns the scenes with which a reel can end that is put behind another one, none if it does not follow.
func (f film) after(s step) scenes {
	if ends, ok := f.found[s]; ok {
		return ends
	}
	r := f.Reels[s.reel]
	begin := max(s.before.first, r.First.Low)
	end := max(begin, r.Last.Low)
	var ends scenes
	if begin <= min(s.before.behind, r.First.High) && end <= r.Last.High {
		ends = scenes{end, r.Last.High + 1}
	}
	f.found[s] = ends
	return ends
}

func (f film) isOrder(list []int) bool {
	ends := anywhere()
	for _, reel := range list {
		ends = f.after(step{reel, ends})
		if ends == (scenes{}) {
			return false
		}
	}
	return true
}

// ordersOf produces all orders of some reels, the first one first; each list is only good until the next one.
// What after returns tells whether a reel follows.
func ordersOf(reels set, after func(step) scenes) iter.Seq[[]int] {
	return func(yield func([]int) bool) {
		order := make([]int, len(reels))
		var try func(place int, rest set, before scenes) bool
		try = func(place int, rest set, before scenes) bool {
			if rest == (set{}) {
				return yield(order[:place:place])
			}
		next:
			for reel := range len(rest) {
				if !rest[reel] {
					continue next
				}
				ends := after(step{reel, before})
				if ends == (scenes{}) {
					continue next
				}
				order[place] = reel
				others := rest
				others[reel] = false
				if !try(place+1, others, ends) {
					return false
				}
			}
			return true
		}
		if reels != (set{}) {
			try(0, reels, anywhere())
		}
	}
}

// orders produces all orders of all reels, as ordersOf does.
func (f film) orders() iter.Seq[[]int] { return ordersOf(f.without(nil), f.after) }

// without returns all reels but those of a list.
func (f film) without(list []int) set {
	var rest set
	for reel := range len(f.Reels) {
		rest[reel] = !slices.Contains(list, reel)
	}
	return rest
}

// places returns at which places a reel is in some order.
func (f film) places(reel int) set {
	var places set
	for order := range f.orders() {
		places[slices.Index(order, reel)] = true
	}
	return places
}

// listsOf produces all strictly increasing lists of so many of the numbers below many, the first one first; each list is only good until the next one.
func listsOf(many, size int) iter.Seq[[]int] {
	return func(yield func([]int) bool) {
		list := make([]int, size)
		var try func(place, from int) bool
		try = func(place, from int) bool {
			if place == size {
				return yield(list[:place:place])
			}
			for i := from; i < many; i++ {
				list[place] = i
				if !try(place+1, i+1) {
					return false
				}
			}
			return true
		}
		try(0, 0)
	}
}

// canFollow reports whether some reels have an order.
func (f film) canFollow(reels set) bool {
	for range ordersOf(reels, f.after) {
		return true
	}
	return false
}

// strange always finds a list: each reel alone is an order.
func (f film) strange() []int {
	for size := range len(f.Reels) {
		for list := range listsOf(len(f.Reels), size) {
			if f.canFollow(f.without(list)) {
				return slices.Clone(list)
			}
		}
	}
	return nil
}

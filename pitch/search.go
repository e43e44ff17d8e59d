package pitch

import (
	"slices"

	"bioscope/api"
)

// search looks for pitches.
// Things that are not better than others must not become better by one thing more.
type search struct {
	ground
	better func(some, others []body) bool
}

// columns returns how many columns lie from the first to the last one that some thing covers.
func columns(all []body) int {
	first, behind := api.PitchWide, 0
	for _, b := range all {
		first, behind = min(first, b.x), greatest(behind, b.x+b.wide)
	}
	return behind - first
}

func areNarrower(some, others []body) bool { return columns(some) < columns(others) }

// distinct returns a thing in all of its places, but only once where a place covers the same cells turned.
func (g ground) distinct(thing int) []body {
	var all []body
	for b := range g.bodiesOf(thing) {
		if !b.place.Turned || b.wide != b.deep {
			all = append(all, b)
		}
	}
	return all
}

// room returns how many cells a thing covers, and how far it must be apart from each other one, all together.
func (g ground) room(thing int) int {
	room := g.Things[thing].Wide * g.Things[thing].Deep
	for other := range len(g.Things) {
		if other != thing {
			room += g.asked(thing, other)
		}
	}
	return room
}

// inTurn returns lists of all distinct places of some things: the thing that needs the most room first, since it leaves the fewest places for others to be tried.
func (g ground) inTurn(things []int) [][]body {
	turn := slices.Clone(things)
	slices.SortStableFunc(turn, func(one, other int) int { return g.room(other) - g.room(one) })
	lists := make([][]body, len(turn))
	for i, thing := range turn {
		lists[i] = g.distinct(thing)
	}
	return lists
}

// best returns a pitch of some things, in any order, without all others, than which none is better; an empty list if they have none.
func (s search) best(things []int) []body {
	var best []body
	all := make([]body, len(things))
	lists := s.inTurn(things)
	var add func(many int)
	add = func(many int) {
		if many == len(things) {
			best = slices.Clone(all)
			return
		}
	next:
		for _, b := range lists[many] {
			all[many] = b
			standing := all[: many+1 : many+1]
			if len(best) > 0 && !s.better(standing, best) {
				continue next
			}
			for _, other := range all[:many] {
				if !s.areApart(b, other) {
					continue next
				}
			}
			// One thing more never frees a cell: what has no way now will have none.
			if s.haveWays(standing) {
				add(many + 1)
			}
		}
	}
	add(0)
	return best
}

// narrowest returns a pitch of all things that covers the fewest columns; an empty list if there is no pitch.
func (g ground) narrowest() []body {
	all := 1<<len(g.Things) - 1
	return search{g, areNarrower}.best(thingsOf(all))
}

// most returns the first of the longest lists of things that have a pitch; an empty list if no thing has one.
func (g ground) most() []int {
	var most []int
	enough := search{g, func(some, others []body) bool { return false }}
	for set := range 1 << len(g.Things) {
		things := thingsOf(set)
		if isBefore(things, most) && len(enough.best(things)) > 0 {
			most = things
		}
	}
	return most
}

// isBefore reports whether a list of things is longer than another one, or as long and before it.
func isBefore(one, other []int) bool {
	return len(one) > len(other) || len(one) == len(other) && slices.Compare(one, other) < 0
}

// thingsOf returns the numbers of a set.
func thingsOf(set int) []int {
	var things []int
	for thing := range api.PitchThings {
		if set>>thing&1 == 1 {
			things = append(things, thing)
		}
	}
	return things
}

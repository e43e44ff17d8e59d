package lost

import (
	"cmp"
	"iter"
	"slices"

	"bioscope/api"
)

// trains tells of each train if it is meant.
type trains [api.TrainTrains]bool

// legs produces all legs with trains that are not used.
func (k book) legs(used trains) iter.Seq[api.TrainLeg] {
	return func(yield func(api.TrainLeg) bool) {
	nextTrain:
		for train, x := range k.Table.Trains {
			for to := range len(x.Stops) {
				for from := range to {
					if used[train] {
						continue nextTrain
					}
					if !yield(api.TrainLeg{Train: train, From: from, To: to}) {
						return
					}
				}
			}
		}
	}
}

// journeys produces all journeys, each in memory of its own.
func (k book) journeys() iter.Seq[[]api.TrainLeg] {
	return func(yield func([]api.TrainLeg) bool) {
		var used, none trains
		var further func(legs []api.TrainLeg) bool
		further = func(legs []api.TrainLeg) bool {
			many := len(legs)
			if !yield(legs) {
				return false
			}
			if many == k.Legs {
				return true
			}
			station := k.From
			if used != none {
				station = k.to(legs[many-1]).Station
			}
			for leg := range k.legs(used) {
				if k.from(leg).Station != station {
					continue
				}
				used[leg.Train] = true
				if !further(append(legs[:many:many], leg)) {
					return false
				}
				used[leg.Train] = false
			}
			return true
		}
		further(nil)
	}
}

func (k book) isJourney(legs []api.TrainLeg) bool {
	for journey := range k.journeys() {
		if slices.Equal(journey, legs) {
			return true
		}
	}
	return false
}

// order tells which of two lists comes first: one with fewer elements; of as many that which is less where they differ first.
type order[E any] struct {
	compare func(one, other E) int
}

func (o order[E]) isBefore(one, other []E) bool {
	if len(one) != len(other) {
		return len(one) < len(other)
	}
	return slices.CompareFunc(one, other, o.compare) < 0
}

// first returns the first one of some lists, and whether there is one.
func (o order[E]) first(lists iter.Seq[[]E]) (first []E, some bool) {
	for list := range lists {
		if !some || o.isBefore(list, first) {
			first, some = list, true
		}
	}
	return first, some
}

func compareLegs(one, other api.TrainLeg) int {
	return cmp.Or(cmp.Compare(one.Train, other.Train), cmp.Compare(one.From, other.From), cmp.Compare(one.To, other.To))
}

// only produces those of some values that are of some sort.
func only[V any](all iter.Seq[V], is func(V) bool) iter.Seq[V] {
	return func(yield func(V) bool) {
		for v := range all {
			if is(v) && !yield(v) {
				return
			}
		}
	}
}

func count[V any](all iter.Seq[V]) (many int) {
	for range all {
		many++
	}
	return many
}

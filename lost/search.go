package lost

import (
	"cmp"
	"iter"

	"bioscope/api"
)

// rightTruths produces all truths with a journey in which all sights are right.
func (k book) rightTruths(legs []api.TrainLeg) iter.Seq[truth] {
	return only(k.truths(legs), k.isRight)
}

// canBe reports whether a journey can be.
func (k book) canBe(legs []api.TrainLeg) bool {
	for range k.rightTruths(legs) {
		return true
	}
	return false
}

// ways produces all journeys that can be.
func (k book) ways() iter.Seq[[]api.TrainLeg] { return only(k.journeys(), k.canBe) }

// whereabouts returns for each journey that can be where the box can be with it in the minute that is asked about.
func (k book) whereabouts() (all []places) {
	asked := len(k.Sights)
	for legs := range k.journeys() {
		var can places
		for t := range k.rightTruths(legs) {
			can[t.track[asked]] = true
		}
		if can != (places{}) {
			all = append(all, can)
		}
	}
	return all
}

// late returns between what a train is late in all truths in which all sights are right, and whether there is one.
func (k book) late(train int) (late api.Span, some bool) {
	for legs := range k.journeys() {
		for t := range k.rightTruths(legs) {
			s := k.lateIn(t, train)
			if !some {
				late, some = s, true
			}
			late = api.Span{Low: min(late.Low, s.Low), High: greatest(late.High, s.High)}
		}
	}
	return late, some
}

// wrong returns the first of the lists of the fewest sights that are wrong in some truth.
func (k book) wrong() []int {
	wrong, _ := order[int]{cmp.Compare[int]}.first(k.wrongs())
	return wrong
}

// wrongs produces for each truth all sights that are wrong in it.
func (k book) wrongs() iter.Seq[[]int] {
	return func(yield func([]int) bool) {
		for legs := range k.journeys() {
			for t := range k.truths(legs) {
				if !yield(k.wrongIn(t)) {
					return
				}
			}
		}
	}
}

// ask returns the first station whose answer leaves the fewest of the journeys that can be, at the worst.
func (k book) ask(ways []places) int {
	best, fewest := 0, len(ways)+1
	for station := range k.Table.Offices {
		if many := worst(ways, station); many < fewest {
			best, fewest = station, many
		}
	}
	return best
}

// worst returns how many journeys the answer of a station leaves at the worst.
func worst(ways []places, station int) int {
	yes, no := 0, 0
	for _, can := range ways {
		if can[at(station)] {
			yes++
		}
		if can != placesOf(at(station)) {
			no++
		}
	}
	return greatest(yes, no)
}

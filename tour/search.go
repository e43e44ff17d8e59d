package tour

import (
	"iter"
	"math"
	"slices"

	"bioscope/api"
)

// reached is where a tour ends, and which towns it visited: what can follow depends on nothing else of it.
type reached struct {
	halt
	visited set
}

// stayDays produces the first day on which a stay in a town can begin behind a halt, and all later ones of the fair: no better stay begins or ends on another one.
func (k book) stayDays(behind halt, town int) iter.Seq[int] {
	return func(yield func(int) bool) {
		fair, soonest := k.Towns[town].Fair, k.soonest(behind, town)
		if !isDay(soonest) || !yield(soonest) {
			return
		}
		for day := greatest(soonest+1, fair.Low); day <= fair.High; day++ {
			if !yield(day) {
				return
			}
		}
	}
}

// stays produces stays in a town behind a halt, with what each one is worth: of those that end on the same day one that is worth the most, if it is worth more than all that end sooner. No other stay there is better.
func (a account) stays(behind halt, town int) iter.Seq2[api.TourStay, int] {
	return func(yield func(api.TourStay, int) bool) {
		road := a.road(visit{from: behind.town, town: town})
		s := api.TourStay{Town: town}
		brought, best := 0, math.MinInt
		for day := range a.stayDays(behind, town) {
			// Days that bring nothing in all are better left out before the others.
			if brought <= 0 {
				s.First, brought = day, 0
			}
			s.Last = day
			brought += a.brings(visit{town, town, day})
			if brought <= best {
				continue
			}
			best = brought
			if !yield(s, road+brought) {
				return
			}
		}
	}
}

// tours produces tours of a stay or more, with what each one is worth; each list is only good until the next one.
// It leaves out those that are worth no more than one before that ends in the same town, on the same day, and visited the same towns.
func (a account) tours() iter.Seq2[[]api.TourStay, int] {
	return func(yield func([]api.TourStay, int) bool) {
		var tour [api.TourTowns]api.TourStay
		known := map[reached]int{}
		var try func(many int, from reached, worth int) bool
		try = func(many int, from reached, worth int) bool {
			if from.visited != (set{}) && !yield(tour[:many:many], worth) {
				return false
			}
		nextTown:
			for town := range len(a.Towns) {
				if from.visited[town] {
					continue nextTown
				}
				for s, brought := range a.stays(from.halt, town) {
					to, now := reached{halt{town, s.Last}, from.visited.with(town)}, worth+brought
					if before, is := known[to]; is && before >= now {
						continue
					}
					known[to], tour[many] = now, s
					if !try(many+1, to, now) {
						return false
					}
				}
			}
			return true
		}
		try(0, reached{halt: a.home()}, 0)
	}
}

// knowBest returns the best tour, and what it surely is worth, if a book is valid.
func knowBest(b api.TourBook) (best []api.TourStay, gain int, e api.Errno) {
	k, e := know(b)
	if e != api.OK {
		return nil, 0, e
	}
	// Staying at home is worth 0, without a stay.
	for tour, worth := range (account{k, least}).tours() {
		if worth > gain || worth == gain && len(tour) < len(best) {
			best, gain = slices.Clone(tour), worth
		}
	}
	return best, gain, api.OK
}

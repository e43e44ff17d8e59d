package train

import (
	"cmp"
	"iter"
	"slices"

	"bioscope/api"
)

// trains tells of each train if it is meant.
type trains [api.TrainTrains]bool

// trip is a route, with the station to which it leads, and the minute in which a box is there.
type trip struct {
	legs      []api.TrainLeg
	to, there int
}

// question is which trips are looked for: by which a box that is loaded in a minute goes, as surely as that, and is there in time; and which of two is the better one.
type question struct {
	surely          int
	from, to        int
	loaded, thereBy int
	better          func(one, other trip) bool
}

// onward produces what all legs from a station tell whose trains are not used.
func (t table) onward(station int, used trains) iter.Seq[ride] {
	return func(yield func(ride) bool) {
	nextTrain:
		for train, x := range t.Trains {
			for to := range len(x.Stops) {
				for from := range to {
					if used[train] {
						continue nextTrain
					}
					leg := api.TrainLeg{Train: train, From: from, To: to}
					if x.Stops[from].Station == station && !yield(t.rides[leg]) {
						return
					}
				}
			}
		}
	}
}

// trips produces all routes by which a box goes. The next one is written over the legs of the one before: those that are kept must be copied.
func (t table) trips(q question) iter.Seq[trip] {
	return func(yield func(trip) bool) {
		arrival := arrivals()[q.surely]
		var legs [api.TrainLegs]api.TrainLeg
		var used trains
		var further func(many, station, loaded int) bool
		further = func(many, station, loaded int) bool {
			if station != q.from && !yield(trip{legs[:many:many], station, t.firstOpen(station, loaded)}) {
				return false
			}
			if many == len(legs) {
				return true
			}
			for r := range t.onward(station, used) {
				arrives, goes := arrival(r, loaded)
				if !goes {
					continue
				}
				legs[many], used[r.leg.Train] = r.leg, true
				if !further(many+1, r.to, arrives+t.Load) {
					return false
				}
				used[r.leg.Train] = false
			}
			return true
		}
		further(0, q.from, q.loaded)
	}
}

// answer returns the best trip that is looked for, and whether there is one.
func (t table) answer(q question) (best trip, some bool) {
	for x := range t.trips(q) {
		if x.to != q.to || x.there > q.thereBy {
			continue
		}
		if !some || q.better(x, best) {
			best, some = x, true
			best.legs = slices.Clone(x.legs)
		}
	}
	return best, some
}

// isSooner reports whether a box is there sooner by one trip than by another one, or by the first one of both.
func isSooner(one, other trip) bool {
	if one.there != other.there {
		return one.there < other.there
	}
	return isBefore(one.legs, other.legs)
}

// isBefore reports whether a route comes before another one.
func isBefore(one, other []api.TrainLeg) bool {
	if len(one) != len(other) {
		return len(one) < len(other)
	}
	for i, leg := range one {
		if leg != other[i] {
			return compareLegs(leg, other[i]) < 0
		}
	}
	return false
}

func compareLegs(one, other api.TrainLeg) int {
	return cmp.Or(cmp.Compare(one.Train, other.Train), cmp.Compare(one.From, other.From), cmp.Compare(one.To, other.To))
}

// knowBest returns the best trip, if the timetable is valid.
func knowBest(t api.TrainTable, surely, from, to, at int) (trip, api.Errno) {
	k, e := know(t)
	if e != api.OK {
		return trip{}, e
	}
	return k.best(surely, from, to, at)
}

// best returns the trip by which a box that is handed in in a minute is there first: at the soonest if it perhaps goes, at the latest if it surely goes.
func (t table) best(surely, from, to, at int) (trip, api.Errno) {
	if !t.areApart(from, to) || !isMinute(at) {
		return trip{}, api.ErrTrainAsk
	}
	if !t.isOpen(from, at) {
		return trip{}, api.ErrNone
	}
	best, some := t.answer(question{surely, from, to, at + t.Load, api.TrainMinute, isSooner})
	if !some {
		return trip{}, api.ErrNone
	}
	return best, api.OK
}

// handedIn returns the last minute in which a box can be handed in so that it surely goes by the first train of a trip; -1 if there is none.
func (t table) handedIn(x trip) int {
	first := t.rides[x.legs[0]]
	return t.lastOpen(first.from, first.leaves.Low-t.Load)
}

// latest returns the last minute in which a box can be handed in that surely is there by a minute.
func (t table) latest(from, to, by int) (int, api.Errno) {
	later := func(one, other trip) bool { return t.handedIn(one) > t.handedIn(other) }
	// No train leaves before the minute 0: a box that is loaded then misses no first train.
	best, some := t.answer(question{api.TrainYes, from, to, 0, by, later})
	if !some || t.handedIn(best) < 0 {
		return 0, api.ErrNone
	}
	return t.handedIn(best), api.OK
}

// reach returns by which minute a box that is handed in surely is at each station: -1 if that is not sure.
func (t table) reach(from, at int) []int {
	reached := make([]int, len(t.Offices))
	for to := range reached {
		reached[to] = -1
		if best, e := t.best(api.TrainYes, from, to, at); e == api.OK {
			reached[to] = best.there
		}
	}
	reached[from] = at
	return reached
}

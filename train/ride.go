package train

import (
	"slices"

	"bioscope/api"
)

// ride is what a leg tells: from which station to which one it leads, and between what its train leaves and arrives there.
type ride struct {
	leg             api.TrainLeg
	from, to        int
	leaves, arrives api.Span
}

func rideOf(x api.TrainTrain, leg api.TrainLeg) ride {
	from, to := x.Stops[leg.From], x.Stops[leg.To]
	return ride{
		leg: leg, from: from.Station, to: to.Station,
		leaves:  api.Span{Low: from.Leave + x.Late.Low, High: from.Leave + x.Late.High},
		arrives: api.Span{Low: to.Arrive + x.Late.Low, High: to.Arrive + x.Late.High},
	}
}

// soonest returns when the train arrives at the soonest with a box that is loaded in a minute, and whether it can be late enough for that.
func (r ride) soonest(loaded int) (arrives int, goes bool) {
	leaves := greatest(loaded, r.leaves.Low)
	return r.arrives.Low + leaves - r.leaves.Low, leaves <= r.leaves.High
}

// latest returns when the train arrives at the latest, and whether a box that is loaded in a minute goes by it however late it is.
func (r ride) latest(loaded int) (arrives int, goes bool) {
	return r.arrives.High, loaded <= r.leaves.Low
}

// arrival tells when a train arrives, and whether a box goes by it that is loaded in a minute.
type arrival func(r ride, loaded int) (arrives int, goes bool)

// arrivals returns how to tell it for a box that perhaps goes, and for one that surely does: a box that goes however late each train is before the next one goes by that, however late all are.
func arrivals() [3]arrival {
	return [...]arrival{api.TrainMay: ride.soonest, api.TrainYes: ride.latest}
}

// minute is one of the timetable.
type minute int

func (m minute) isIn(open api.Span) bool { return isWithin(int(m), open) }

// isOpen reports whether the office of a station is open in a minute.
func (t table) isOpen(station, at int) bool {
	return slices.ContainsFunc(t.Offices[station], minute(at).isIn)
}

// firstOpen returns the first minute from one on in which the office of a station is open; api.TrainNever if there is none.
func (t table) firstOpen(station, from int) int {
	for _, open := range t.Offices[station] {
		if from <= open.High {
			return greatest(from, open.Low)
		}
	}
	return api.TrainNever
}

// lastOpen returns the last minute up to one in which the office of a station is open; -1 if there is none.
func (t table) lastOpen(station, by int) int {
	last := -1
	for _, open := range t.Offices[station] {
		if open.Low <= by {
			last = min(by, open.High)
		}
	}
	return last
}

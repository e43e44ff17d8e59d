package train

import (
	"cmp"

	"bioscope/api"
)

// tableBounds is between what lie how many Offices and Trains there are, and Load of a timetable.
var tableBounds = [...]api.Span{
	{Low: 1, High: api.TrainStations},
	{Low: 0, High: api.TrainTrains},
	{Low: 0, High: api.TrainLoad},
}

// trainBounds is between what lie how many Stops a train has, and both ends of its Late.
var trainBounds = [...]api.Span{
	{Low: 2, High: api.TrainStops},
	{Low: 0, High: api.TrainLate},
	{Low: 0, High: api.TrainLate},
}

// table is a valid timetable, with what each leg tells that a route can have.
type table struct {
	api.TrainTable
	rides map[api.TrainLeg]ride
}

// know returns a timetable for the calculation, if it is valid.
func know(t api.TrainTable) (table, api.Errno) {
	if e := Check(t); e != api.OK {
		return table{}, e
	}
	k := table{t, map[api.TrainLeg]ride{}}
	for train, x := range t.Trains {
		for to := range len(x.Stops) {
			for from := range to {
				leg := api.TrainLeg{Train: train, From: from, To: to}
				k.rides[leg] = rideOf(x, leg)
			}
		}
	}
	return k, api.OK
}

func isTable(t api.TrainTable) bool {
	for i, n := range [...]int{len(t.Offices), len(t.Trains), t.Load} {
		if !isWithin(n, tableBounds[i]) {
			return false
		}
	}
	for _, hours := range t.Offices {
		if !areHours(hours) {
			return false
		}
	}
	for _, x := range t.Trains {
		if !isTrain(x) || !areStops(x.Stops, len(t.Offices)) {
			return false
		}
	}
	return true
}

// areHours reports whether an office can be open in these spans.
func areHours(hours []api.Span) bool {
	behind := 0
	for _, open := range hours {
		if open.Low < behind || open.High < open.Low || !isMinute(open.High) {
			return false
		}
		behind = open.High + 1
	}
	return len(hours) <= api.TrainOpen
}

func isTrain(x api.TrainTrain) bool {
	for i, n := range [...]int{len(x.Stops), x.Late.Low, x.Late.High} {
		if !isWithin(n, trainBounds[i]) {
			return false
		}
	}
	return x.Late.Low <= x.Late.High
}

// areStops reports whether a train can stop like this at some of so many stations.
func areStops(stops []api.TrainStop, stations int) bool {
	behind := 0
	for _, s := range stops {
		if s.Station < 0 || s.Station >= stations || s.Arrive < behind || s.Leave < s.Arrive || !isMinute(s.Leave) {
			return false
		}
		behind = s.Leave + 1
	}
	return true
}

func isWithin(n int, within api.Span) bool { return within.Low <= n && n <= within.High }

func isMinute(n int) bool { return n >= 0 && n <= api.TrainMinute }

func (t table) hasStation(station int) bool { return station >= 0 && station < len(t.Offices) }

// areApart reports whether two numbers are those of two stations.
func (t table) areApart(from, to int) bool {
	return t.hasStation(from) && t.hasStation(to) && from != to
}

// greatest returns the greatest of some numbers.
func greatest[N cmp.Ordered](first N, others ...N) N {
	for _, n := range others {
		if n > first {
			first = n
		}
	}
	return first
}

package train_test

import (
	"fmt"
	"math"
	"math/rand/v2"
	"slices"
	"testing"

	"bioscope/api"
	"bioscope/train"
)

func span(low, high int) api.Span { return api.Span{Low: low, High: high} }

func stop(station, arrive, leave int) api.TrainStop {
	return api.TrainStop{Station: station, Arrive: arrive, Leave: leave}
}

// runs is a train that is late by no less than low, and no more than high.
func runs(low, high int, stops ...api.TrainStop) api.TrainTrain {
	return api.TrainTrain{Stops: stops, Late: span(low, high)}
}

func leg(train, from, to int) api.TrainLeg {
	return api.TrainLeg{Train: train, From: from, To: to}
}

func route(l ...api.TrainLeg) []api.TrainLeg { return l }

func hours(l ...api.Span) []api.Span { return l }

// example is the timetable of the chapter's examples, with some changes.
func example(changes ...func(t *api.TrainTable)) api.TrainTable {
	return with(api.TrainTable{
		Load:    10,
		Offices: [][]api.Span{hours(span(480, 1200)), hours(span(480, 720), span(780, 1140)), hours(span(420, 1320))},
		Trains: []api.TrainTrain{
			runs(0, 20, stop(0, 500, 500), stop(1, 560, 565), stop(2, 640, 640)),
			runs(0, 5, stop(1, 590, 600), stop(2, 650, 650)),
			runs(0, 60, stop(0, 700, 700), stop(2, 800, 800)),
			runs(0, 10, stop(0, 690, 690), stop(1, 705, 710)),
		},
	}, changes...)
}

// both is the route of the examples with a change of trains.
func both() []api.TrainLeg { return route(leg(0, 0, 1), leg(1, 0, 1)) }

// always is a timetable of so many offices that are always open, where boxes are loaded in no time.
func always(offices int, trains ...api.TrainTrain) api.TrainTable {
	t := api.TrainTable{Trains: trains}
	for range offices {
		t.Offices = append(t.Offices, hours(span(0, 2879)))
	}
	return t
}

// with is a copy of a timetable after some changes.
func with(t api.TrainTable, changes ...func(t *api.TrainTable)) api.TrainTable {
	t = copyOf(t)
	for _, change := range changes {
		change(&t)
	}
	return t
}

func load(n int) func(t *api.TrainTable) {
	return func(t *api.TrainTable) { t.Load = n }
}

func office(i int, open ...api.Span) func(t *api.TrainTable) {
	return func(t *api.TrainTable) { t.Offices[i] = open }
}

func late(i, low, high int) func(t *api.TrainTable) {
	return func(t *api.TrainTable) { t.Trains[i].Late = span(low, high) }
}

func stopOf(train, i int, s api.TrainStop) func(t *api.TrainTable) {
	return func(t *api.TrainTable) { t.Trains[train].Stops[i] = s }
}

func stops(train int, l ...api.TrainStop) func(t *api.TrainTable) {
	return func(t *api.TrainTable) { t.Trains[train].Stops = l }
}

// more adds trains behind the others.
func more(l ...api.TrainTrain) func(t *api.TrainTable) {
	return func(t *api.TrainTable) { t.Trains = append(t.Trains, l...) }
}

// copyOf is a timetable that shares no memory with t.
func copyOf(t api.TrainTable) api.TrainTable {
	t.Offices, t.Trains = slices.Clone(t.Offices), slices.Clone(t.Trains)
	for i, open := range t.Offices {
		t.Offices[i] = slices.Clone(open)
	}
	for i, x := range t.Trains {
		t.Trains[i].Stops = slices.Clone(x.Stops)
	}
	return t
}

// wrongTables are timetables that are not valid, each for a reason of its own.
func wrongTables() map[string]api.TrainTable {
	change := map[string]func(t *api.TrainTable){
		"nothing":                func(t *api.TrainTable) { *t = api.TrainTable{} },
		"no offices":             func(t *api.TrainTable) { *t = api.TrainTable{Load: 10} },
		"seven offices":          func(t *api.TrainTable) { t.Offices = make([][]api.Span, 7) },
		"four times open":        office(1, span(0, 1), span(3, 4), span(6, 7), span(9, 10)),
		"a time from its end":    office(2, span(5, 4)),
		"a time before 0":        office(0, span(-1, 4)),
		"a time far before 0":    office(0, span(math.MinInt, 4)),
		"a time behind 2879":     office(0, span(0, 2880)),
		"a time far behind 2879": office(2, span(0, math.MaxInt)),
		"a time out of minutes":  office(2, span(2880, 2881)),
		"times that touch":       office(1, span(0, 1), span(1, 2)),
		"times that overlap":     office(1, span(0, 10), span(5, 20)),
		"times in no order":      office(2, span(10, 20), span(0, 5)),
		"a third time too soon":  office(0, span(0, 1), span(5, 9), span(9, 10)),
		"a second time inverted": office(0, span(0, 1), span(9, 8)),
		"Load below 0":           load(-1),
		"Load above 60":          load(61),
		"the least Load":         load(math.MinInt),
		"the most Load":          load(math.MaxInt),
		"seven trains":           more(example().Trains[:3]...),
		"Late below 0":           late(0, -1, 9),
		"Late above 90":          late(3, 0, 91),
		"Late out of 90":         late(3, 91, 91),
		"Late inverted":          late(2, 6, 5),
		"the most Late":          late(1, 0, math.MaxInt),
		"the least Late":         late(1, math.MinInt, 0),
		"no stops":               stops(3),
		"one stop":               stops(0, stop(0, 500, 500)),
		"six stops":              stops(0, stop(0, 0, 0), stop(1, 1, 1), stop(0, 2, 2), stop(1, 3, 3), stop(0, 4, 4), stop(1, 5, 5)),
		"a station below 0":      stopOf(0, 2, stop(-1, 640, 640)),
		"a station too far":      stopOf(1, 1, stop(3, 650, 650)),
		"the last station":       stopOf(1, 0, stop(math.MaxInt, 590, 600)),
		"an arrival before 0":    stopOf(0, 0, stop(0, -1, 500)),
		"the least arrival":      stopOf(0, 0, stop(0, math.MinInt, 500)),
		"a departure too late":   stopOf(0, 2, stop(2, 640, 2880)),
		"the last departure":     stopOf(0, 2, stop(2, 640, math.MaxInt)),
		"an arrival too late":    stopOf(2, 1, stop(2, 2880, 2880)),
		"a departure too soon":   stopOf(0, 1, stop(1, 560, 559)),
		"an arrival too soon":    stopOf(0, 1, stop(1, 500, 565)),
		"no minute on the road":  stopOf(0, 2, stop(2, 565, 640)),
		"stops in no order":      stops(2, stop(0, 800, 800), stop(2, 700, 700)),
		"a departure below 0":    stopOf(3, 0, stop(0, 0, -1)),
	}
	tables := map[string]api.TrainTable{}
	for name, c := range change {
		tables[name] = example(c)
	}
	return tables
}

// someTable is a valid timetable of at most so many offices, trains and stops, all in so many minutes from a first one on.
func someTable(r *rand.Rand, offices, trains, stops, first, minutes, late int) api.TrainTable {
	t := api.TrainTable{Load: r.IntN(1 + r.IntN(1+min(60, minutes/12)))}
	for range 2 + r.IntN(offices-1) {
		t.Offices = append(t.Offices, someHours(r, first, minutes))
	}
	for range max(r.IntN(trains+1), r.IntN(trains+1)) {
		lost := r.IntN(late + 1)
		x := runs(lost, lost+r.IntN(late-lost+1))
		station, further := r.IntN(len(t.Offices)), 1+r.IntN(2)*r.IntN(4)
		for _, s := range someMinutes(r, 2+r.IntN(stops-1), first, minutes) {
			x.Stops = append(x.Stops, stop(station, s.Low, s.High))
			station = (station + further) % len(t.Offices)
		}
		t.Trains = append(t.Trains, x)
	}
	return t
}

// someHours are times at which an office is open: mostly for long, so that many boxes go.
func someHours(r *rand.Rand, first, minutes int) []api.Span {
	if r.IntN(3) > 0 {
		return hours(span(first, first+minutes-1))
	}
	return someMinutes(r, min(3, r.IntN(5)), first, minutes)
}

// someMinutes are spans, each of which begins behind the one before.
func someMinutes(r *rand.Rand, many, first, minutes int) []api.Span {
	ends := r.Perm(minutes)[:2*many]
	slices.Sort(ends)
	var l []api.Span
	for i := range many {
		low := first + ends[2*i]
		l = append(l, span(low, low+r.IntN(ends[2*i+1]-ends[2*i]+1)))
	}
	return l
}

// call is one of the functions, asked with as much of a timetable, a route, stations and a minute as it takes.
type call struct {
	name string
	ask  func(t api.TrainTable, l []api.TrainLeg, from, to, at int) (string, api.Errno)
	zero string
}

// calls are all functions. Their results are texts, in which a nil list is like an empty one.
func calls() []call {
	text := func(x any, e api.Errno) (string, api.Errno) { return fmt.Sprint(x), e }
	return []call{
		{"Check", func(t api.TrainTable, _ []api.TrainLeg, _, _, _ int) (string, api.Errno) {
			return text("", train.Check(t))
		}, ""},
		{"IsRoute", func(t api.TrainTable, l []api.TrainLeg, from, to, _ int) (string, api.Errno) {
			return text(train.IsRoute(t, l, from, to))
		}, "false"},
		{"Goes", func(t api.TrainTable, l []api.TrainLeg, _, _, at int) (string, api.Errno) {
			return text(train.Goes(t, l, at))
		}, "0"},
		{"Missed", func(t api.TrainTable, l []api.TrainLeg, _, _, at int) (string, api.Errno) {
			return text(train.Missed(t, l, at))
		}, "[]"},
		{"There", func(t api.TrainTable, l []api.TrainLeg, _, _, at int) (string, api.Errno) {
			return text(train.There(t, l, at))
		}, "{0 0}"},
		{"Best", func(t api.TrainTable, _ []api.TrainLeg, from, to, at int) (string, api.Errno) {
			return text(train.Best(t, from, to, at))
		}, "[]"},
		{"Surely", func(t api.TrainTable, _ []api.TrainLeg, from, to, at int) (string, api.Errno) {
			return text(train.Surely(t, from, to, at))
		}, "0"},
		{"Soonest", func(t api.TrainTable, _ []api.TrainLeg, from, to, at int) (string, api.Errno) {
			return text(train.Soonest(t, from, to, at))
		}, "0"},
		{"Latest", func(t api.TrainTable, _ []api.TrainLeg, from, to, at int) (string, api.Errno) {
			return text(train.Latest(t, from, to, at))
		}, "0"},
		{"Reach", func(t api.TrainTable, _ []api.TrainLeg, from, _, at int) (string, api.Errno) {
			return text(train.Reach(t, from, at))
		}, "[]"},
	}
}

// right ends the test if a call that must have no error has one.
func right(t *testing.T, name string, e api.Errno) {
	t.Helper()
	if e != api.OK {
		t.Fatalf("%s: error %d", name, e)
	}
}

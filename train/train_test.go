package train_test

import (
	"math"
	"math/rand/v2"
	"slices"
	"testing"

	"bioscope/api"
	"bioscope/train"
)

// P3.1: Check, and that all functions return its error first.
func TestCheck(t *testing.T) {
	for name, x := range wrongTables() {
		if e := train.Check(x); e != api.ErrTrain {
			t.Errorf("Check of a timetable with %s: %d", name, e)
		}
		for _, c := range calls() {
			for _, l := range [][]api.TrainLeg{nil, both(), route(leg(9, 9, 9))} {
				for _, n := range []int{-1, 0, 2, 480, 9999} {
					if got, e := c.ask(x, l, 0, n, n); got != c.zero || e != api.ErrTrain {
						t.Errorf("%s of a timetable with %s: %s, %d", c.name, name, got, e)
					}
				}
			}
		}
	}
}

// P3.1: what is just valid.
func TestCheckLimits(t *testing.T) {
	short := runs(0, 0, stop(0, 0, 0), stop(0, 1, 1))
	for i, x := range []api.TrainTable{
		example(), always(1), always(6), {Offices: make([][]api.Span, 6)}, always(1, short), always(6, short, short, short, short, short, short),
		example(load(0)), example(load(60)), example(late(0, 0, 90)), example(late(0, 90, 90)), example(late(2, 0, 0)),
		example(office(0)), example(office(1, span(0, 2879))), example(office(1, span(0, 0), span(1, 1), span(2, 2))), example(office(2, span(2879, 2879))), example(office(2, span(0, 9), span(10, 2878), span(2879, 2879))),
		example(stops(0, stop(0, 0, 0), stop(1, 1, 1), stop(2, 2, 2), stop(1, 3, 3), stop(0, 4, 2879))), example(stops(0, stop(2, 0, 2878), stop(2, 2879, 2879))), example(stops(2, stop(1, 5, 5), stop(1, 6, 6))),
	} {
		if e := train.Check(x); e != api.OK {
			t.Errorf("Check of the timetable %d: %d", i, e)
		}
	}
}

// P3.1: which legs are a route from one station to another one.
func TestIsRoute(t *testing.T) {
	// the first train comes back, and stops twice at the station 1; the others go round
	back := always(3,
		runs(0, 0, stop(0, 10, 10), stop(1, 20, 20), stop(1, 30, 30), stop(0, 40, 40), stop(2, 50, 50)),
		runs(0, 0, stop(1, 10, 10), stop(0, 20, 20), stop(2, 30, 30)),
		runs(0, 0, stop(0, 5, 5), stop(2, 6, 6)), runs(0, 0, stop(2, 5, 5), stop(1, 6, 6)), runs(0, 0, stop(1, 5, 5), stop(0, 6, 6)))
	for i, x := range []struct {
		t        api.TrainTable
		l        []api.TrainLeg
		from, to int
		want     bool
		e        api.Errno
	}{
		// the examples
		{example(), both(), 0, 2, true, api.OK}, {example(), route(leg(0, 0, 2)), 0, 2, true, api.OK}, {example(), route(leg(0, 0, 1), leg(2, 0, 1)), 0, 2, false, api.OK},
		// other ends than those of the route
		{example(), both(), 0, 1, false, api.OK}, {example(), both(), 1, 2, false, api.OK}, {example(), both(), 2, 0, false, api.OK}, {example(), route(leg(0, 1, 2)), 1, 2, true, api.OK}, {example(), route(leg(0, 1, 2)), 0, 2, false, api.OK},
		// the times do not matter
		{example(), route(leg(3, 0, 1), leg(1, 0, 1)), 0, 2, true, api.OK}, {example(office(0), office(1), office(2)), both(), 0, 2, true, api.OK},
		// no legs; no such train or stop; a To that is no later stop
		{example(), nil, 0, 2, false, api.OK}, {example(), route(), 0, 2, false, api.OK}, {example(), route(leg(4, 0, 1)), 0, 2, false, api.OK}, {example(), route(leg(-1, 0, 1)), 0, 2, false, api.OK}, {example(), route(leg(0, 0, 3)), 0, 2, false, api.OK}, {example(), route(leg(0, -1, 2)), 0, 2, false, api.OK}, {example(), route(leg(0, 3, 4)), 0, 2, false, api.OK}, {example(), route(leg(0, 1, 1)), 0, 1, false, api.OK}, {example(), route(leg(0, 2, 0)), 2, 0, false, api.OK}, {example(), route(leg(math.MaxInt, 0, 1)), 0, 2, false, api.OK}, {example(), route(leg(0, math.MinInt, math.MaxInt)), 0, 2, false, api.OK},
		{example(), route(leg(0, 0, 1), leg(9, 0, 1)), 0, 1, false, api.OK}, {example(), route(leg(9, 0, 1), leg(1, 0, 1)), 1, 2, false, api.OK},
		// a train twice, one after the other or not
		{example(), route(leg(0, 0, 1), leg(0, 1, 2)), 0, 2, false, api.OK}, {back, route(leg(0, 0, 1), leg(1, 0, 1), leg(0, 3, 4)), 0, 2, false, api.OK}, {back, route(leg(0, 0, 1), leg(1, 0, 1), leg(2, 0, 1)), 0, 2, true, api.OK},
		// trains that stop at a station twice; a leg that ends where it begins; the first station in between
		{back, route(leg(0, 0, 2)), 0, 1, true, api.OK}, {back, route(leg(0, 3, 4)), 0, 2, true, api.OK}, {back, route(leg(0, 1, 3)), 1, 0, true, api.OK}, {back, route(leg(0, 1, 2), leg(4, 0, 1)), 1, 0, true, api.OK}, {back, route(leg(4, 0, 1), leg(0, 0, 3), leg(2, 0, 1)), 1, 2, true, api.OK},
		// routes that end where they begin, if the station is asked for or not
		{back, route(leg(0, 0, 3)), 0, 1, false, api.OK}, {back, route(leg(0, 0, 3)), 0, 0, false, api.ErrTrainAsk}, {back, route(leg(0, 1, 2)), 1, 0, false, api.OK}, {back, route(leg(2, 0, 1), leg(3, 0, 1), leg(4, 0, 1)), 0, 2, false, api.OK},
		// four legs are a route, five are none
		{back, route(leg(0, 0, 3), leg(2, 0, 1), leg(3, 0, 1), leg(4, 0, 1)), 0, 1, false, api.OK}, {back, route(leg(2, 0, 1), leg(3, 0, 1), leg(4, 0, 1), leg(0, 0, 4)), 0, 2, true, api.OK}, {back, route(leg(2, 0, 1), leg(3, 0, 1), leg(1, 0, 1), leg(0, 0, 1)), 0, 1, true, api.OK},
		{back, route(leg(2, 0, 1), leg(3, 0, 1), leg(4, 0, 1), leg(0, 0, 1), leg(1, 0, 2)), 0, 2, false, api.OK}, {back, make([]api.TrainLeg, 9), 0, 1, false, api.OK},
		// stations that are none, or the same
		{example(), both(), 0, 0, false, api.ErrTrainAsk}, {example(), both(), 0, 3, false, api.ErrTrainAsk}, {example(), both(), 3, 2, false, api.ErrTrainAsk}, {example(), both(), -1, 2, false, api.ErrTrainAsk}, {example(), both(), 0, -1, false, api.ErrTrainAsk}, {example(), nil, math.MinInt, math.MaxInt, false, api.ErrTrainAsk}, {always(1), nil, 0, 1, false, api.ErrTrainAsk},
	} {
		if is, e := train.IsRoute(x.t, x.l, x.from, x.to); is != x.want || e != x.e {
			t.Errorf("IsRoute %d: %v, %d", i, is, e)
		}
	}
}

// chain is a timetable of three trains one after the other, two of them perhaps late, with little time to change.
func chain() api.TrainTable {
	return always(4, runs(0, 10, stop(0, 100, 100), stop(1, 200, 200)), runs(0, 10, stop(1, 205, 205), stop(2, 300, 300)), runs(0, 0, stop(2, 305, 305), stop(3, 400, 400)))
}

// P3.2 and P3.3: whether a box goes, which legs it can miss, and when it is there; also the order of the errors.
func TestBoxes(t *testing.T) {
	through, all := route(leg(0, 0, 2)), route(leg(0, 0, 1), leg(1, 0, 1), leg(2, 0, 1))
	// a train that is surely late, and one that is late over the end of the second day
	slow := example(late(0, 7, 20))
	end := always(2, runs(0, 90, stop(0, 2800, 2850), stop(1, 2860, 2860)))
	for i, x := range []struct {
		t      api.TrainTable
		l      []api.TrainLeg
		at     int
		goes   int
		missed []int
		f      api.Errno
		there  api.Span
		g      api.Errno
	}{
		// the examples
		{example(), through, 480, api.TrainYes, nil, api.OK, span(650, 670), api.OK}, {example(), through, 495, api.TrainMay, []int{0}, api.OK, span(655, 670), api.OK}, {example(), through, 511, api.TrainNo, []int{0}, api.OK, span(0, 0), api.ErrNone}, {example(), through, 470, api.TrainNo, nil, api.ErrNone, span(0, 0), api.ErrNone},
		{example(), both(), 480, api.TrainYes, nil, api.OK, span(660, 665), api.OK}, {example(), both(), 495, api.TrainMay, []int{0}, api.OK, span(660, 665), api.OK}, {example(), both(), 479, api.TrainNo, nil, api.ErrNone, span(0, 0), api.ErrNone}, {example(), route(leg(3, 0, 1)), 600, api.TrainYes, nil, api.OK, span(715, 780), api.OK},
		// the last minutes in which a box surely goes, perhaps goes
		{example(), through, 490, api.TrainYes, nil, api.OK, span(650, 670), api.OK}, {example(), through, 491, api.TrainMay, []int{0}, api.OK, span(651, 670), api.OK}, {example(), through, 510, api.TrainMay, []int{0}, api.OK, span(670, 670), api.OK},
		{slow, through, 497, api.TrainYes, nil, api.OK, span(657, 670), api.OK}, {slow, through, 498, api.TrainMay, []int{0}, api.OK, span(658, 670), api.OK}, {slow, through, 511, api.TrainNo, []int{0}, api.OK, span(0, 0), api.ErrNone},
		// a box that is put on a train on its way; the office is shut when it is there, or always, or for some of how late trains are
		{example(), route(leg(0, 1, 2)), 555, api.TrainYes, nil, api.OK, span(650, 670), api.OK}, {example(), route(leg(0, 1, 2)), 556, api.TrainMay, []int{0}, api.OK, span(651, 670), api.OK}, {example(), route(leg(3, 0, 1)), 480, api.TrainYes, nil, api.OK, span(715, 780), api.OK}, {example(late(3, 10, 10)), route(leg(3, 0, 1)), 480, api.TrainYes, nil, api.OK, span(780, 780), api.OK},
		{example(office(2)), both(), 480, api.TrainYes, nil, api.OK, span(2880, 2880), api.OK}, {example(office(2, span(0, 660))), through, 480, api.TrainYes, nil, api.OK, span(650, 2880), api.OK}, {example(office(2, span(0, 660))), through, 500, api.TrainMay, []int{0}, api.OK, span(660, 2880), api.OK}, {example(office(2, span(0, 100), span(650, 650), span(2879, 2879))), through, 480, api.TrainYes, nil, api.OK, span(650, 2879), api.OK},
		// offices on the way need not be open
		{example(office(1)), both(), 480, api.TrainYes, nil, api.OK, span(660, 665), api.OK},
		// just enough time to change trains, one minute less, so little that the box goes if the next train is late, and too little
		{example(stopOf(0, 1, stop(1, 570, 575))), both(), 480, api.TrainYes, nil, api.OK, span(660, 665), api.OK}, {example(stopOf(0, 1, stop(1, 571, 575))), both(), 480, api.TrainMay, []int{1}, api.OK, span(660, 665), api.OK}, {example(stopOf(0, 1, stop(1, 595, 600))), both(), 480, api.TrainMay, []int{1}, api.OK, span(665, 665), api.OK}, {example(stopOf(0, 1, stop(1, 596, 600))), both(), 480, api.TrainNo, []int{1}, api.OK, span(0, 0), api.ErrNone},
		// each change can be missed; the next train must be late enough if the one before must
		{chain(), all, 100, api.TrainMay, []int{1, 2}, api.OK, span(400, 400), api.OK}, {chain(), all, 110, api.TrainMay, []int{0, 1, 2}, api.OK, span(400, 400), api.OK}, {chain(), all, 111, api.TrainNo, []int{0, 1, 2}, api.OK, span(0, 0), api.ErrNone}, {chain(), all[:2], 100, api.TrainMay, []int{1}, api.OK, span(300, 310), api.OK}, {chain(), all[:2], 107, api.TrainMay, []int{0, 1}, api.OK, span(302, 310), api.OK},
		{with(chain(), late(2, 2, 3)), all, 110, api.TrainMay, []int{0, 1, 2}, api.OK, span(402, 403), api.OK}, {with(chain(), load(5)), all, 95, api.TrainMay, []int{1, 2}, api.OK, span(405, 405), api.OK}, {with(chain(), load(5)), all, 96, api.TrainNo, []int{0, 1, 2}, api.OK, span(0, 0), api.ErrNone}, {with(chain(), load(6)), all, 94, api.TrainNo, []int{1, 2}, api.OK, span(0, 0), api.ErrNone},
		// a train that leaves, and arrives, behind the last minute
		{end, route(leg(0, 0, 1)), 2850, api.TrainYes, nil, api.OK, span(2860, 2880), api.OK}, {end, route(leg(0, 0, 1)), 2869, api.TrainMay, []int{0}, api.OK, span(2879, 2880), api.OK}, {end, route(leg(0, 0, 1)), 2879, api.TrainMay, []int{0}, api.OK, span(2880, 2880), api.OK}, {with(end, load(60)), route(leg(0, 0, 1)), 2879, api.TrainMay, []int{0}, api.OK, span(2880, 2880), api.OK}, {with(end, load(60), late(0, 0, 88)), route(leg(0, 0, 1)), 2879, api.TrainNo, []int{0}, api.OK, span(0, 0), api.ErrNone},
		// minutes that are none; legs that are no route, and that also if the office is shut
		{example(), both(), -1, 0, nil, api.ErrTrainAsk, span(0, 0), api.ErrTrainAsk}, {example(), both(), 2880, 0, nil, api.ErrTrainAsk, span(0, 0), api.ErrTrainAsk}, {example(), both(), math.MaxInt, 0, nil, api.ErrTrainAsk, span(0, 0), api.ErrTrainAsk}, {example(), both(), math.MinInt, 0, nil, api.ErrTrainAsk, span(0, 0), api.ErrTrainAsk},
		{example(), nil, 480, 0, nil, api.ErrTrainAsk, span(0, 0), api.ErrTrainAsk}, {example(), route(leg(0, 0, 1), leg(2, 0, 1)), 480, 0, nil, api.ErrTrainAsk, span(0, 0), api.ErrTrainAsk}, {example(), route(leg(4, 0, 1)), 470, 0, nil, api.ErrTrainAsk, span(0, 0), api.ErrTrainAsk}, {always(1, runs(0, 0, stop(0, 1, 1), stop(0, 2, 2))), route(leg(0, 0, 1)), 0, 0, nil, api.ErrTrainAsk, span(0, 0), api.ErrTrainAsk},
	} {
		if n, e := train.Goes(x.t, x.l, x.at); n != x.goes || (e == api.ErrTrainAsk) != (x.g == api.ErrTrainAsk) || e != api.OK && e != api.ErrTrainAsk {
			t.Errorf("Goes %d: %d, %d", i, n, e)
		}
		if l, e := train.Missed(x.t, x.l, x.at); !slices.Equal(l, x.missed) || e != x.f {
			t.Errorf("Missed %d: %v, %d", i, l, e)
		}
		if got, e := train.There(x.t, x.l, x.at); got != x.there || e != x.g {
			t.Errorf("There %d: %v, %d", i, got, e)
		}
	}
}

// sure is the chain with trains that are not too late for each other.
func sure() api.TrainTable { return with(chain(), late(0, 0, 5), late(1, 0, 5)) }

// equals is a timetable of four trains by which a box is there in the same minute.
func equals(change ...func(t *api.TrainTable)) api.TrainTable {
	return with(always(3,
		runs(0, 0, stop(0, 10, 10), stop(1, 20, 20), stop(0, 25, 25), stop(1, 30, 30)),
		runs(0, 0, stop(1, 35, 35), stop(2, 50, 50), stop(2, 55, 55)),
		runs(0, 0, stop(0, 15, 15), stop(2, 50, 50), stop(2, 54, 54)),
		runs(0, 0, stop(0, 5, 5), stop(0, 6, 6), stop(2, 50, 50))), change...)
}

// P3.4 and P3.5: the best route, by which minute the box surely is there, the soonest minute, and the order of the errors.
func TestBest(t *testing.T) {
	shutAt60 := office(2, span(0, 49), span(60, 70))
	for i, x := range []struct {
		t            api.TrainTable
		from, to, at int
		best         []api.TrainLeg
		surely       int
		e            api.Errno
		soonest      int
		f            api.Errno
	}{
		// the examples
		{example(), 0, 2, 480, both(), 665, api.OK, 650, api.OK}, {example(), 0, 2, 495, route(leg(2, 0, 1)), 870, api.OK, 655, api.OK},
		// the last minutes for a train; the office of the first station is shut, or too few trains are left; nothing leads back
		{example(), 0, 2, 490, both(), 665, api.OK, 650, api.OK}, {example(), 0, 2, 491, route(leg(2, 0, 1)), 870, api.OK, 651, api.OK}, {example(), 0, 2, 690, route(leg(2, 0, 1)), 870, api.OK, 810, api.OK}, {example(), 0, 2, 691, nil, 0, api.ErrNone, 811, api.OK}, {example(), 0, 2, 750, nil, 0, api.ErrNone, 870, api.OK}, {example(), 0, 2, 751, nil, 0, api.ErrNone, 0, api.ErrNone}, {example(), 0, 2, 479, nil, 0, api.ErrNone, 0, api.ErrNone}, {example(office(0)), 0, 2, 480, nil, 0, api.ErrNone, 0, api.ErrNone}, {example(), 2, 0, 480, nil, 0, api.ErrNone, 0, api.ErrNone}, {always(2), 0, 1, 480, nil, 0, api.ErrNone, 0, api.ErrNone},
		{example(), 0, 1, 480, route(leg(0, 0, 1)), 590, api.OK, 570, api.OK}, {example(), 0, 1, 600, route(leg(3, 0, 1)), 780, api.OK, 715, api.OK}, {example(), 1, 2, 480, route(leg(1, 0, 1)), 665, api.OK, 650, api.OK},
		// an office that is never open, or not for sure, when the box is there
		{example(office(2)), 0, 2, 480, nil, 0, api.ErrNone, 0, api.ErrNone}, {example(office(2, span(0, 664))), 0, 2, 480, nil, 0, api.ErrNone, 650, api.OK}, {example(office(2, span(0, 665))), 0, 2, 480, both(), 665, api.OK, 650, api.OK}, {example(office(2, span(660, 664), span(2879, 2879))), 0, 2, 480, route(leg(0, 0, 2)), 2879, api.OK, 660, api.OK},
		// by way of trains that can be late for each other, and of those that cannot
		{chain(), 0, 3, 100, nil, 0, api.ErrNone, 400, api.OK}, {sure(), 0, 3, 100, route(leg(0, 0, 1), leg(1, 0, 1), leg(2, 0, 1)), 400, api.OK, 400, api.OK}, {sure(), 0, 3, 101, nil, 0, api.ErrNone, 400, api.OK}, {sure(), 0, 3, 106, nil, 0, api.ErrNone, 0, api.ErrNone}, {chain(), 0, 1, 100, route(leg(0, 0, 1)), 210, api.OK, 200, api.OK}, {chain(), 0, 1, 108, nil, 0, api.ErrNone, 208, api.OK},
		// of equal ones the first one: fewer legs, then the train, the first stop, the last one
		{equals(), 0, 2, 0, route(leg(2, 0, 1)), 50, api.OK, 50, api.OK}, {equals(), 0, 2, 6, route(leg(2, 0, 1)), 50, api.OK, 50, api.OK}, {equals(), 0, 2, 16, route(leg(0, 2, 3), leg(1, 0, 1)), 50, api.OK, 50, api.OK}, {equals(), 0, 1, 0, route(leg(0, 0, 1)), 20, api.OK, 20, api.OK}, {equals(office(1, span(30, 40))), 0, 1, 0, route(leg(0, 0, 1)), 30, api.OK, 30, api.OK}, {equals(office(1, span(30, 40))), 0, 1, 11, route(leg(0, 2, 3)), 30, api.OK, 30, api.OK}, {equals(stopOf(2, 0, stop(1, 15, 15))), 0, 2, 0, route(leg(3, 0, 2)), 50, api.OK, 50, api.OK}, {equals(stopOf(2, 0, stop(1, 15, 15))), 0, 2, 6, route(leg(3, 1, 2)), 50, api.OK, 50, api.OK}, {equals(stopOf(2, 0, stop(1, 36, 36)), stopOf(3, 0, stop(1, 5, 5)), stopOf(3, 1, stop(1, 6, 6))), 0, 2, 0, route(leg(0, 0, 1), leg(1, 0, 1)), 50, api.OK, 50, api.OK},
		{equals(shutAt60), 0, 2, 0, route(leg(2, 0, 1)), 60, api.OK, 60, api.OK}, {equals(shutAt60), 0, 2, 11, route(leg(2, 0, 1)), 60, api.OK, 60, api.OK}, {equals(shutAt60), 0, 2, 16, route(leg(0, 2, 3), leg(1, 0, 1)), 60, api.OK, 60, api.OK},
		// a train is not used twice, even if it would be there sooner than another one
		{always(3, runs(0, 0, stop(0, 10, 10), stop(1, 20, 20), stop(1, 40, 40), stop(2, 50, 50)), runs(0, 0, stop(1, 25, 25), stop(1, 30, 30)), runs(0, 0, stop(1, 45, 45), stop(2, 90, 90))), 0, 2, 0, route(leg(0, 0, 3)), 50, api.OK, 50, api.OK}, {always(4, runs(0, 0, stop(0, 10, 10), stop(1, 20, 20), stop(2, 40, 40), stop(3, 50, 50)), runs(0, 0, stop(1, 5, 5), stop(2, 30, 30))), 1, 3, 0, route(leg(0, 1, 3)), 50, api.OK, 50, api.OK},
		// stations that are none, or the same, and minutes that are none; also if no route is there
		{example(), 0, 0, 480, nil, 0, api.ErrTrainAsk, 0, api.ErrTrainAsk}, {example(), 0, 3, 480, nil, 0, api.ErrTrainAsk, 0, api.ErrTrainAsk}, {example(), -1, 2, 480, nil, 0, api.ErrTrainAsk, 0, api.ErrTrainAsk}, {example(), 3, 2, 480, nil, 0, api.ErrTrainAsk, 0, api.ErrTrainAsk}, {example(), 0, -1, 480, nil, 0, api.ErrTrainAsk, 0, api.ErrTrainAsk}, {example(), 0, 2, 2880, nil, 0, api.ErrTrainAsk, 0, api.ErrTrainAsk}, {example(), 0, 2, -1, nil, 0, api.ErrTrainAsk, 0, api.ErrTrainAsk}, {example(), 2, 0, -1, nil, 0, api.ErrTrainAsk, 0, api.ErrTrainAsk}, {example(), 0, 2, 2879, nil, 0, api.ErrNone, 0, api.ErrNone}, {example(), 0, 2, 0, nil, 0, api.ErrNone, 0, api.ErrNone}, {always(2), 1, 1, 0, nil, 0, api.ErrTrainAsk, 0, api.ErrTrainAsk},
	} {
		if l, e := train.Best(x.t, x.from, x.to, x.at); !slices.Equal(l, x.best) || e != x.e {
			t.Errorf("Best %d: %v, %d", i, l, e)
		}
		if n, e := train.Surely(x.t, x.from, x.to, x.at); n != x.surely || e != x.e {
			t.Errorf("Surely %d: %d, %d", i, n, e)
		}
		if n, e := train.Soonest(x.t, x.from, x.to, x.at); n != x.soonest || e != x.f {
			t.Errorf("Soonest %d: %d, %d", i, n, e)
		}
	}
}

// P3.6: the last minute in which a box can be handed in, and the order of the errors.
func TestLatest(t *testing.T) {
	shut := example(office(0, span(400, 450), span(495, 1200)))
	// trains of the first and of the last minutes
	first, last := runs(0, 0, stop(0, 0, 0), stop(1, 5, 5)), runs(80, 90, stop(0, 2700, 2710), stop(1, 2720, 2720))
	for i, x := range []struct {
		t        api.TrainTable
		from, to int
		by       int
		want     int
		e        api.Errno
	}{
		// the examples
		{example(), 0, 2, 700, 490, api.OK}, {example(), 0, 2, 664, 0, api.ErrNone}, {example(), 0, 2, 900, 690, api.OK},
		// just in time, and one minute less
		{example(), 0, 2, 665, 490, api.OK}, {example(), 0, 2, 870, 690, api.OK}, {example(), 0, 2, 869, 490, api.OK}, {example(), 0, 1, 590, 490, api.OK}, {example(), 0, 1, 589, 0, api.ErrNone}, {example(), 0, 1, 779, 490, api.OK}, {example(), 0, 1, 780, 680, api.OK}, {example(), 1, 2, 665, 590, api.OK}, {example(), 1, 2, 664, 0, api.ErrNone}, {example(), 2, 0, 2879, 0, api.ErrNone},
		// the first office is shut in the last minute that would do, for a while, or all the time; the last one is shut in the minute that is asked about, or for ever
		{shut, 0, 2, 700, 450, api.OK}, {shut, 0, 2, 900, 690, api.OK}, {example(office(0, span(485, 489))), 0, 2, 700, 489, api.OK}, {example(office(0, span(490, 490))), 0, 2, 700, 490, api.OK}, {example(office(0, span(491, 689))), 0, 2, 700, 0, api.ErrNone}, {example(office(0, span(491, 689))), 0, 2, 900, 689, api.OK}, {example(office(0)), 0, 2, 2879, 0, api.ErrNone}, {example(), 0, 2, 2879, 690, api.OK}, {example(office(2)), 0, 2, 2879, 0, api.ErrNone}, {example(office(2, span(700, 1000))), 0, 2, 699, 0, api.ErrNone}, {example(office(2, span(700, 1000))), 0, 2, 700, 490, api.OK}, {example(office(2, span(0, 860))), 0, 2, 900, 490, api.OK},
		// trains that can be late for each other, or cannot
		{sure(), 0, 3, 400, 100, api.OK}, {sure(), 0, 3, 399, 0, api.ErrNone}, {chain(), 0, 3, 2879, 0, api.ErrNone}, {with(sure(), late(2, 3, 4)), 1, 3, 404, 205, api.OK}, {with(sure(), late(1, 3, 5)), 1, 3, 400, 208, api.OK}, {with(sure(), late(1, 3, 6)), 1, 3, 400, 0, api.ErrNone},
		// a later train by which a box is there sooner; one that is there no sooner
		{equals(), 0, 2, 50, 25, api.OK}, {equals(), 0, 1, 30, 25, api.OK}, {equals(), 0, 1, 29, 10, api.OK}, {equals(), 0, 1, 19, 0, api.ErrNone},
		// the first and the last minute, and trains that leave too soon for a box to be loaded
		{always(2, first), 0, 1, 5, 0, api.OK}, {always(2, first), 0, 1, 2879, 0, api.OK}, {with(always(2, first), load(1)), 0, 1, 2879, 0, api.ErrNone}, {always(2, last), 0, 1, 2810, 2790, api.OK}, {always(2, last), 0, 1, 2809, 0, api.ErrNone}, {with(always(2, last), load(60)), 0, 1, 2870, 2730, api.OK}, {with(always(2, last), load(60)), 0, 1, 2869, 0, api.ErrNone}, {with(always(2, last), office(0, span(2731, 2879)), load(60)), 0, 1, 2879, 0, api.ErrNone},
		// stations that are none, or the same, and minutes that are none
		{example(), 0, 0, 700, 0, api.ErrTrainAsk}, {example(), 3, 2, 700, 0, api.ErrTrainAsk}, {example(), 0, 3, 700, 0, api.ErrTrainAsk}, {example(), -1, 2, 700, 0, api.ErrTrainAsk}, {example(), 0, -1, 700, 0, api.ErrTrainAsk}, {example(), 0, 2, -1, 0, api.ErrTrainAsk}, {example(), 0, 2, 2880, 0, api.ErrTrainAsk}, {example(), 2, 0, math.MaxInt, 0, api.ErrTrainAsk}, {example(), 2, 0, math.MinInt, 0, api.ErrTrainAsk}, {example(), 0, 2, 0, 0, api.ErrNone},
	} {
		if n, e := train.Latest(x.t, x.from, x.to, x.by); n != x.want || e != x.e {
			t.Errorf("Latest %d: %d, %d", i, n, e)
		}
	}
}

// P3.7: by which minute a box surely is at each station, and the order of the errors.
func TestReach(t *testing.T) {
	for i, x := range []struct {
		t        api.TrainTable
		from, at int
		want     []int
		e        api.Errno
	}{
		// the examples
		{example(), 0, 480, []int{480, 590, 665}, api.OK}, {example(), 0, 600, []int{600, 780, 870}, api.OK}, {example(), 2, 500, []int{-1, -1, 500}, api.OK},
		// the office is shut when the box is handed in, or never open; no train leads there
		{example(), 0, 479, []int{479, -1, -1}, api.OK}, {example(office(0)), 0, 480, []int{480, -1, -1}, api.OK}, {example(office(1)), 0, 480, []int{480, -1, 665}, api.OK}, {example(), 1, 500, []int{-1, 500, 665}, api.OK}, {example(), 1, 750, []int{-1, 750, -1}, api.OK}, {always(3), 1, 7, []int{-1, 7, -1}, api.OK},
		{sure(), 0, 99, []int{99, 205, 305, 400}, api.OK}, {chain(), 0, 99, []int{99, 210, -1, -1}, api.OK}, {chain(), 1, 99, []int{-1, 99, 310, -1}, api.OK},
		// the first minute, the last one, and a single station
		{always(1), 0, 0, []int{0}, api.OK}, {always(1), 0, 2879, []int{2879}, api.OK}, {always(1, runs(0, 0, stop(0, 5, 5), stop(0, 9, 9))), 0, 3, []int{3}, api.OK},
		{example(), 3, 480, nil, api.ErrTrainAsk}, {example(), -1, 480, nil, api.ErrTrainAsk}, {example(), 0, -1, nil, api.ErrTrainAsk}, {example(), 0, 2880, nil, api.ErrTrainAsk}, {example(), math.MaxInt, math.MinInt, nil, api.ErrTrainAsk}, {always(1), 1, 0, nil, api.ErrTrainAsk},
	} {
		if l, e := train.Reach(x.t, x.from, x.at); !slices.Equal(l, x.want) || e != x.e {
			t.Errorf("Reach %d: %v, %d", i, l, e)
		}
	}
}

// P3.8: arguments are only read, what lies behind a list among them.
func TestArgumentsAreRead(t *testing.T) {
	for _, x := range []api.TrainTable{example(), sure(), equals()} {
		x.Offices = append(x.Offices, hours(span(9, 8)))[:len(x.Offices)]
		x.Trains = append(x.Trains, runs(9, 8))[:len(x.Trains)]
		for i, open := range x.Offices {
			x.Offices[i] = append(open, span(77, 78))[:len(open)]
		}
		for i, y := range x.Trains {
			x.Trains[i].Stops = append(y.Stops, stop(77, 78, 79))[:len(y.Stops)]
		}
		l := append(both(), leg(77, 78, 79))[:2]
		old, oldLegs := copyOf(whole(x)), slices.Clone(l[:3])
		for _, c := range calls() {
			for at := range 700 {
				c.ask(x, l, at%2, 2, at)
			}
			if !isSame(whole(x), old) || !slices.Equal(l[:3], oldLegs) {
				t.Errorf("%s changes its arguments: %v, %v", c.name, whole(x), l[:3])
			}
		}
	}
}

// whole is a timetable with what lies behind its lists.
func whole(t api.TrainTable) api.TrainTable {
	t.Offices, t.Trains = slices.Clone(t.Offices[:cap(t.Offices)]), slices.Clone(t.Trains[:cap(t.Trains)])
	for i, open := range t.Offices {
		t.Offices[i] = open[:cap(open)]
	}
	for i, x := range t.Trains {
		t.Trains[i].Stops = x.Stops[:cap(x.Stops)]
	}
	return t
}

func isSame(one, other api.TrainTable) bool {
	sameTrain := func(a, b api.TrainTrain) bool { return a.Late == b.Late && slices.Equal(a.Stops, b.Stops) }
	return one.Load == other.Load && slices.EqualFunc(one.Offices, other.Offices, slices.Equal) && slices.EqualFunc(one.Trains, other.Trains, sameTrain)
}

// P3.8: a result keeps what it is if an argument or another result is changed.
func TestResultsAreNew(t *testing.T) {
	x := example()
	one, e := train.Best(x, 0, 2, 480)
	right(t, "Best", e)
	reach, e := train.Reach(x, 0, 480)
	right(t, "Reach", e)
	missed, e := train.Missed(chain(), route(leg(0, 0, 1), leg(1, 0, 1), leg(2, 0, 1)), 110)
	right(t, "Missed", e)
	clear(x.Offices)
	clear(x.Trains)
	if !slices.Equal(one, both()) || !slices.Equal(reach, []int{480, 590, 665}) {
		t.Errorf("a result shares memory with an argument: %v, %v", one, reach)
	}
	two, _ := train.Best(example(), 0, 2, 480)
	clear(one)
	clear(reach)
	clear(missed)
	again, _ := train.Best(example(), 0, 2, 480)
	if !slices.Equal(two, both()) || !slices.Equal(again, both()) {
		t.Errorf("Best after a change of an earlier result: %v, %v", two, again)
	}
	if l, _ := train.Reach(example(), 0, 480); !slices.Equal(l, []int{480, 590, 665}) {
		t.Errorf("Reach after a change of an earlier result: %v", l)
	}
	if l, _ := train.Missed(chain(), route(leg(0, 0, 1), leg(1, 0, 1), leg(2, 0, 1)), 110); !slices.Equal(l, []int{0, 1, 2}) {
		t.Errorf("Missed after a change of an earlier result: %v", l)
	}
}

// P1: no function panics or goes on for ever, and with an error all else is zero.
func TestAnyArguments(t *testing.T) {
	tables := []api.TrainTable{example(), sure(), equals(), always(1), always(6), crowd()}
	for _, x := range wrongTables() {
		tables = append(tables, x)
	}
	numbers := []int{math.MinInt, -1, 0, 2, 480, 2879, math.MaxInt}
	lists := [][]api.TrainLeg{nil, route(), both(), route(leg(0, 0, 1), leg(1, 1, 2), leg(2, 2, 3), leg(3, 3, 4)), make([]api.TrainLeg, 5000)}
	for _, n := range numbers {
		lists = append(lists, route(leg(n, 0, 1)), route(leg(0, n, 2)), route(leg(0, 0, n)), route(leg(0, 0, 1), leg(n, n, n)))
	}
	for _, x := range tables {
		for _, c := range calls() {
			for _, l := range lists {
				for k, n := range numbers {
					if got, e := c.ask(x, l, numbers[(k+5)%7], numbers[(k+6)%7], n); e != api.OK && got != c.zero {
						t.Fatalf("%s: %s with the error %d", c.name, got, e)
					}
				}
			}
		}
	}
	for _, c := range calls() {
		if got, e := c.ask(crowd(), nil, 0, 1, 0); e != api.OK && got != c.zero {
			t.Fatalf("%s: %s with the error %d", c.name, got, e)
		}
	}
}

// crowd is a timetable with about as many routes as there can be.
func crowd() api.TrainTable {
	t := always(6)
	for range 6 {
		more(runs(0, 90, stop(0, 1, 1), stop(0, 2, 2), stop(0, 3, 3), stop(0, 4, 4), stop(1, 5, 5)))(&t)
	}
	return t
}

// P2: the same arguments have the same result, whatever was called before, and in whatever memory they are; also R3, that a nil list is like an empty one.
func TestSameResults(t *testing.T) {
	r := rand.New(rand.NewPCG(29, 30))
	type question struct {
		t            api.TrainTable
		l            []api.TrainLeg
		from, to, at int
		answers      []string
	}
	var questions []question
	ask := func(q question) (answers []string) {
		for _, c := range calls() {
			got, e := c.ask(copyOf(q.t), slices.Clone(q.l), q.from, q.to, q.at)
			answers = append(answers, got, string(rune('0'+e)))
		}
		return answers
	}
	for range 80 {
		q := question{t: someTable(r, 4, 4, 4, 0, 200, 30), at: r.IntN(100)}
		q.from = r.IntN(len(q.t.Offices))
		q.to = r.IntN(len(q.t.Offices))
		if all := routesOf(q.t); len(all) > 0 {
			q.l = all[r.IntN(len(all))]
		}
		q.answers = ask(q)
		questions = append(questions, q)
	}
	for _, k := range r.Perm(len(questions)) {
		if got := ask(questions[k]); !slices.Equal(got, questions[k].answers) {
			t.Errorf("the question %d: first %v, then %v", k, questions[k].answers, got)
		}
	}
	empty := example(func(t *api.TrainTable) { t.Offices[1] = hours() })
	none := example(func(t *api.TrainTable) { t.Offices[1] = nil })
	noTrains, nilTrains := always(2), always(2)
	noTrains.Trains = []api.TrainTrain{}
	for _, c := range calls() {
		for _, l := range [][]api.TrainLeg{both(), route(), nil} {
			a, e := c.ask(empty, l, 0, 1, 480)
			b, f := c.ask(none, slices.Clone(l), 0, 1, 480)
			if a != b || e != f {
				t.Errorf("%s: %s, %d of an empty list of hours; %s, %d of a nil one", c.name, a, e, b, f)
			}
		}
		a, e := c.ask(noTrains, nil, 0, 1, 480)
		b, f := c.ask(nilTrains, route(), 0, 1, 480)
		if a != b || e != f {
			t.Errorf("%s: %s, %d of no trains; %s, %d of nil ones", c.name, a, e, b, f)
		}
	}
}

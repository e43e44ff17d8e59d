package lost_test

import (
	"math"
	"slices"
	"testing"

	"bioscope/api"
	"bioscope/lost"
)

// simple is a book of three stations, where boxes are loaded in no time; a box was handed in at 0 in the minute 100.
func simple(l []api.TrainTrain, changes ...change) api.LostBook {
	return example(append([]change{offices(3), load(0), at(100), trains(l...)}, changes...)...)
}

func line(l ...api.TrainTrain) []api.TrainTrain { return l }

// ring is a train that goes from 0 to 1 and back to 0, and to 2.
func ring(low, high int) api.TrainTrain {
	return runs(low, high, stop(0, 100, 110), stop(1, 120, 130), stop(0, 140, 150), stop(2, 160, 160))
}

// there and back are trains from 0 to 1, and from there back to 0, that leaves in the minute in which the other one arrives.
func there(low, high int) api.TrainTrain {
	return runs(low, high, stop(0, 110, 110), stop(1, 120, 120))
}

func back(low, high int) api.TrainTrain {
	return runs(low, high, stop(1, 100, 120), stop(0, 130, 130))
}

// P10.1: what is a journey, and whether it can be.
func TestIsWay(t *testing.T) {
	two := journey(leg(0, 0, 1), leg(1, 0, 1))
	for i, x := range []struct {
		b    api.LostBook
		l    []api.TrainLeg
		want bool
		e    api.Errno
	}{
		// the examples
		{both(), journey(leg(0, 0, 2)), true, api.OK}, {both(), journey(leg(2, 0, 1)), false, api.OK}, {both(), nil, false, api.OK}, {both(), journey(leg(1, 0, 1)), false, api.ErrLostAsk},
		// a box that is loaded in the last minute, and a minute too late
		{example(at(510)), journey(leg(0, 0, 1)), true, api.OK}, {example(at(511)), journey(leg(0, 0, 1)), false, api.OK}, {example(at(490), load(30)), journey(leg(0, 0, 2)), true, api.OK}, {example(at(490), load(31)), journey(leg(0, 0, 2)), false, api.OK}, {example(late(0, 20, 20), at(510)), journey(leg(0, 0, 1)), true, api.OK}, {simple(line(there(0, 0)), at(110)), journey(leg(0, 0, 1)), true, api.OK}, {simple(line(there(0, 0)), at(111)), journey(leg(0, 0, 1)), false, api.OK}, {simple(line(there(0, 1)), at(111)), journey(leg(0, 0, 1)), true, api.OK},
		// changed in the last minute, and a minute too late
		{example(load(32), late(0, 13, 20)), two, true, api.OK}, {example(load(32), late(0, 14, 20)), two, false, api.OK}, {example(late(0, 35, 40)), two, true, api.OK}, {example(late(0, 36, 40)), two, false, api.OK}, {example(late(0, 40, 40), late(1, 10, 10)), two, true, api.OK}, {example(late(0, 40, 40), late(1, 0, 9)), two, false, api.OK}, {example(at(510), late(1, 0, 0)), two, true, api.OK}, {example(at(520), late(0, 0, 50), late(1, 0, 0)), two, true, api.OK}, {example(at(521), late(0, 0, 50), late(1, 0, 0)), two, false, api.OK}, {simple(line(there(0, 0), back(0, 0))), two, true, api.OK}, {simple(line(there(1, 1), back(0, 0))), two, false, api.OK}, {simple(line(there(1, 1), back(0, 1))), two, true, api.OK}, {simple(line(there(0, 0), back(0, 0)), load(1)), two, false, api.OK}, {simple(line(there(0, 0), back(0, 1)), load(1)), two, true, api.OK},
		// offices that are never open
		{example(offices(3)), two, true, api.OK},
		// one train stands at its station for some time
		{simple(line(ring(0, 0)), at(110)), journey(leg(0, 0, 1)), true, api.OK}, {simple(line(ring(0, 0)), at(111)), journey(leg(0, 0, 1)), false, api.OK}, {simple(line(ring(0, 0)), at(111)), journey(leg(0, 2, 3)), true, api.OK},
		// back to where the box came from, also by one leg
		{simple(line(ring(0, 0))), journey(leg(0, 0, 2)), true, api.OK}, {simple(line(ring(0, 0)), sights(atStation(0, 140))), journey(leg(0, 0, 2)), true, api.OK}, {simple(line(ring(0, 0)), sights(atStation(0, 139))), journey(leg(0, 0, 2)), false, api.OK}, {simple(line(there(0, 0), back(0, 0)), sights(atStation(0, 130))), two, true, api.OK}, {simple(line(there(0, 0), back(0, 0)), sights(atStation(0, 129))), two, false, api.OK},
		// on the train while it stands at a station on the way
		{simple(line(ring(0, 0)), sights(notAt(1, 125), onTrain(0, 125))), journey(leg(0, 0, 2)), true, api.OK}, {simple(line(ring(0, 0)), sights(atStation(1, 125))), journey(leg(0, 0, 2)), false, api.OK}, {simple(line(ring(0, 0)), sights(atStation(1, 125))), journey(leg(0, 0, 1)), true, api.OK},
		// no legs
		{example(), nil, true, api.OK}, {sighted(atStation(0, 2999)), nil, true, api.OK}, {sighted(notAt(1, 600), notOn(0, 600)), nil, true, api.OK}, {example(legs(0)), nil, true, api.OK}, {example(trains()), nil, true, api.OK}, {gone(), nil, false, api.OK},
		// what is no journey, whether it can be or not
		{example(legs(1)), two, false, api.ErrLostAsk}, {example(legs(0)), journey(leg(0, 0, 1)), false, api.ErrLostAsk}, {example(from(1)), two, false, api.ErrLostAsk}, {example(from(1)), journey(leg(0, 0, 1)), false, api.ErrLostAsk}, {example(from(1)), journey(leg(0, 1, 2)), true, api.OK}, {torn(), journey(leg(1, 0, 1)), false, api.ErrLostAsk}, {torn(), two, false, api.OK},
		{example(), journey(leg(0, 0, 2), leg(1, 0, 1)), false, api.ErrLostAsk}, {example(), journey(leg(1, 0, 1), leg(0, 0, 1)), false, api.ErrLostAsk}, {example(), journey(leg(0, 0, 1), leg(0, 1, 2)), false, api.ErrLostAsk}, {simple(line(ring(0, 0))), journey(leg(0, 0, 1), leg(0, 1, 2)), false, api.ErrLostAsk}, {example(), append(two, leg(2, 0, 1)), false, api.ErrLostAsk},
		{example(), journey(leg(0, 1, 0)), false, api.ErrLostAsk}, {example(), journey(leg(0, 0, 0)), false, api.ErrLostAsk}, {example(), journey(leg(0, 0, 3)), false, api.ErrLostAsk}, {example(), journey(leg(0, -1, 1)), false, api.ErrLostAsk}, {example(), journey(leg(4, 0, 1)), false, api.ErrLostAsk}, {example(), journey(leg(-1, 0, 1)), false, api.ErrLostAsk}, {example(), journey(leg(0, 0, math.MaxInt)), false, api.ErrLostAsk}, {example(), journey(leg(math.MaxInt, 0, 1)), false, api.ErrLostAsk}, {example(), journey(leg(0, math.MinInt, 1)), false, api.ErrLostAsk}, {example(), journey(leg(math.MinInt, 0, 1)), false, api.ErrLostAsk}, {example(trains()), journey(leg(0, 0, 1)), false, api.ErrLostAsk},
	} {
		if is, e := lost.IsWay(x.b, x.l); is != x.want || e != x.e {
			t.Errorf("IsWay %d: %v, %d", i, is, e)
		}
	}
}

// P10.1, P10.2: how many journeys can be, and which is the first one.
func TestWays(t *testing.T) {
	two := journey(leg(0, 0, 1), leg(1, 0, 1))
	// Of two trains from 0 to 1 the second one is the sooner one; a third one goes on to 2.
	race := line(runs(0, 9, stop(0, 120, 120), stop(1, 140, 140)), runs(0, 9, stop(0, 110, 110), stop(1, 130, 130)), runs(0, 0, stop(1, 145, 145), stop(2, 160, 160)))
	for i, x := range []struct {
		b     api.LostBook
		want  int
		first []api.TrainLeg
	}{
		// the examples
		{both(), 2, journey(leg(0, 0, 1))}, {gone(), 3, journey(leg(0, 0, 1))}, {example(), 6, nil},
		{example(legs(0)), 1, nil}, {example(legs(1)), 5, nil}, {example(from(1)), 3, nil}, {example(from(2)), 1, nil}, {example(trains()), 1, nil}, {example(at(800)), 1, nil}, {example(at(2879)), 1, nil},
		// journeys back, and by several stops
		{simple(line(ring(0, 0))), 5, nil}, {simple(line(ring(0, 0)), sights(notAt(0, 170))), 3, journey(leg(0, 0, 1))}, {simple(line(ring(0, 0)), sights(atStation(2, 170))), 2, journey(leg(0, 0, 3))}, {simple(line(ring(0, 0)), sights(onTrain(0, 155))), 2, journey(leg(0, 0, 3))}, {simple(line(ring(0, 0)), sights(onTrain(0, 155), notOn(0, 145))), 1, journey(leg(0, 2, 3))}, {simple(line(there(0, 0), back(0, 0))), 3, nil}, {simple(line(there(0, 0), back(0, 0)), load(1)), 2, nil},
		// the first train, the first stop, the fewest legs
		{simple(race, sights(notAt(0, 150))), 4, journey(leg(0, 0, 1))}, {simple(race, sights(onTrain(1, 119))), 2, journey(leg(1, 0, 1))}, {simple(race, sights(onTrain(2, 150))), 2, journey(leg(0, 0, 1), leg(2, 0, 1))}, {simple(race, sights(onTrain(2, 150), notOn(0, 130))), 1, journey(leg(1, 0, 1), leg(2, 0, 1))}, {simple([]api.TrainTrain{ring(0, 0), ring(1, 1)}, sights(notAt(0, 105), onTrain(1, 155))), 0, nil}, {simple([]api.TrainTrain{ring(0, 0), ring(1, 1)}, sights(onTrain(1, 155))), 4, journey(leg(1, 0, 3))}, {simple(line(runs(0, 9, stop(0, 120, 120), stop(1, 140, 140)), there(0, 0), runs(0, 0, stop(0, 150, 150), stop(2, 160, 160)), runs(0, 0, stop(1, 150, 150), stop(2, 160, 160))), sights(atStation(2, 170))), 3, journey(leg(2, 0, 1))},
		// just in the minute in which a train leaves, or arrives
		{sighted(onTrain(2, 700)), 1, journey(leg(2, 0, 1))}, {sighted(onTrain(2, 699)), 0, nil}, {sighted(onTrain(2, 859)), 1, journey(leg(2, 0, 1))}, {sighted(onTrain(2, 860)), 0, nil}, {sighted(onTrain(1, 600)), 1, two}, {sighted(onTrain(1, 599)), 0, nil}, {sighted(onTrain(1, 654)), 1, two}, {sighted(onTrain(1, 655)), 0, nil}, {sighted(atStation(1, 560)), 2, journey(leg(0, 0, 1))}, {sighted(atStation(1, 559)), 0, nil}, {sighted(atStation(1, 604)), 2, journey(leg(0, 0, 1))}, {sighted(atStation(1, 605)), 1, journey(leg(0, 0, 1))}, {sighted(notAt(0, 500)), 3, journey(leg(0, 0, 1))}, {sighted(notAt(0, 499)), 0, nil},
		// a train that waits for the next one is not at the station in this minute
		{simple(line(there(0, 0), back(0, 0)), sights(atStation(1, 120))), 1, journey(leg(0, 0, 1))}, {simple(line(there(0, 0), back(0, 0)), sights(onTrain(1, 120))), 1, two}, {simple(line(there(0, 0), back(0, 0)), sights(onTrain(0, 119), onTrain(1, 120), atStation(0, 130))), 1, two}, {simple(line(there(0, 0), back(0, 1)), sights(onTrain(0, 119), atStation(1, 120), onTrain(1, 121))), 1, two},
		// trains that are late on the second day
		{example(trains(runs(0, 90, stop(0, 2870, 2878), stop(1, 2879, 2879))), at(2879), sights(onTrain(0, 2968))), 1, journey(leg(0, 0, 1))}, {example(trains(runs(0, 90, stop(0, 2870, 2878), stop(1, 2879, 2879))), at(2879), sights(onTrain(0, 2969))), 0, nil}, {example(trains(runs(0, 90, stop(0, 2870, 2878), stop(1, 2879, 2879))), at(2879), sights(atStation(1, 2999))), 1, journey(leg(0, 0, 1))},
		// several sights of one train must go together
		{sighted(notOn(0, 509), onTrain(0, 510), onTrain(0, 569), notOn(0, 570)), 2, journey(leg(0, 0, 1))}, {sighted(notOn(0, 509), onTrain(0, 510), onTrain(0, 570)), 1, journey(leg(0, 0, 2))}, {sighted(notOn(0, 509), onTrain(0, 510), onTrain(0, 649)), 1, journey(leg(0, 0, 2))}, {sighted(notOn(0, 509), onTrain(0, 510), onTrain(0, 650)), 0, nil},
		// of one train and the next one
		{sighted(notAt(1, 580), onTrain(1, 600)), 0, nil}, {example(load(30), sights(notAt(1, 572), onTrain(1, 603))), 1, two}, {example(load(30), sights(notAt(1, 573), onTrain(1, 603))), 0, nil}, {example(load(30), sights(notAt(1, 573), onTrain(1, 604))), 1, two}, {example(load(30), sights(notAt(1, 574), onTrain(1, 604))), 0, nil}, {example(load(30), sights(notAt(1, 574), onTrain(1, 605))), 1, two}, {example(load(30), sights(notAt(1, 575), onTrain(1, 605))), 0, nil},
		{torn(), 0, nil},
	} {
		if n, e := lost.Ways(x.b); n != x.want || e != api.OK {
			t.Errorf("Ways %d: %d, %d", i, n, e)
		}
		want := api.OK
		if x.want == 0 {
			want = api.ErrLostFalse
		}
		if l, e := lost.First(x.b); !slices.Equal(l, x.first) || e != want {
			t.Errorf("First %d: %v, %d", i, l, e)
		}
	}
}

// P10.3: where the box can be.
func TestWhere(t *testing.T) {
	ways := simple(line(there(0, 0), back(0, 0)))
	for i, x := range []struct {
		b                api.LostBook
		minute           int
		stations, trains []int
		e                api.Errno
	}{
		// the examples
		{both(), 700, []int{1, 2}, nil, api.OK}, {both(), 570, []int{1}, []int{0}, api.OK}, {gone(), 620, []int{1}, []int{0, 1}, api.OK},
		// the minute in which it was handed in, and the last one
		{example(), 480, []int{0}, nil, api.OK}, {example(), 2999, []int{0, 1, 2}, nil, api.OK}, {both(), 480, []int{0}, nil, api.OK}, {both(), 2999, []int{1, 2}, nil, api.OK}, {simple(line(there(0, 0)), at(110)), 110, []int{0}, []int{0}, api.OK}, {example(at(2879)), 2999, []int{0}, nil, api.OK},
		// just when trains leave and arrive
		{example(), 499, []int{0}, nil, api.OK}, {example(), 500, []int{0}, []int{0}, api.OK}, {gone(), 519, []int{0}, []int{0}, api.OK}, {gone(), 520, nil, []int{0}, api.OK}, {example(), 559, []int{0}, []int{0}, api.OK}, {example(), 560, []int{0, 1}, []int{0}, api.OK}, {gone(), 639, []int{1}, []int{0, 1}, api.OK}, {gone(), 640, []int{1, 2}, []int{0, 1}, api.OK}, {gone(), 654, []int{1, 2}, []int{0, 1}, api.OK}, {gone(), 655, []int{1, 2}, []int{0}, api.OK}, {gone(), 659, []int{1, 2}, []int{0}, api.OK}, {gone(), 660, []int{1, 2}, nil, api.OK}, {gone(), 599, []int{1}, []int{0}, api.OK}, {gone(), 600, []int{1}, []int{0, 1}, api.OK},
		// on one of two trains that change in one minute
		{ways, 119, []int{0}, []int{0}, api.OK}, {ways, 120, []int{0, 1}, []int{1}, api.OK}, {ways, 129, []int{0, 1}, []int{1}, api.OK}, {ways, 130, []int{0, 1}, nil, api.OK},
		// what was seen in this very minute, and sooner or later
		{sighted(atStation(1, 700)), 700, []int{1}, nil, api.OK}, {sighted(notAt(1, 700)), 700, []int{0, 2}, []int{2, 3}, api.OK}, {sighted(onTrain(3, 700)), 700, nil, []int{3}, api.OK}, {sighted(onTrain(3, 700)), 699, []int{0}, []int{3}, api.OK}, {sighted(onTrain(3, 700)), 710, []int{1}, []int{3}, api.OK}, {sighted(notOn(3, 700)), 700, []int{0, 1, 2}, []int{2}, api.OK}, {sighted(notAt(0, 900), notAt(1, 900), notAt(2, 900)), 900, nil, nil, api.ErrLostFalse},
		// six sights and what is asked besides
		{sighted(notAt(0, 600), notOn(1, 620), notAt(2, 650), notAt(2, 640), notAt(2, 641), notAt(2, 642)), 655, []int{1, 2}, []int{0}, api.OK}, {sighted(slices.Repeat([]api.LostSight{notAt(0, 600)}, 6)...), 620, []int{1}, []int{0, 1}, api.OK},
		// the last station and the last train
		{example(trains(runs(0, 0, stop(0, 500, 500), stop(1, 510, 510)), runs(0, 0, stop(0, 500, 500), stop(1, 510, 510)), runs(0, 0, stop(0, 500, 500), stop(2, 510, 510)), runs(0, 0, stop(0, 500, 500), stop(3, 510, 510)), runs(0, 0, stop(0, 500, 500), stop(4, 510, 510)), runs(0, 0, stop(0, 500, 500), stop(5, 510, 510))), offices(6)), 505, []int{0}, []int{0, 1, 2, 3, 4, 5}, api.OK}, {example(trains(runs(0, 0, stop(0, 500, 500), stop(1, 510, 510)), runs(0, 0, stop(0, 500, 500), stop(1, 510, 510)), runs(0, 0, stop(0, 500, 500), stop(2, 510, 510)), runs(0, 0, stop(0, 500, 500), stop(3, 510, 510)), runs(0, 0, stop(0, 500, 500), stop(4, 510, 510)), runs(0, 0, stop(0, 500, 500), stop(5, 510, 510))), offices(6)), 510, []int{0, 1, 2, 3, 4, 5}, nil, api.OK},
		// wrong questions come first
		{torn(), 700, nil, nil, api.ErrLostFalse}, {torn(), 479, nil, nil, api.ErrLostAsk}, {torn(), 3000, nil, nil, api.ErrLostAsk}, {example(), 479, nil, nil, api.ErrLostAsk}, {example(), 3000, nil, nil, api.ErrLostAsk}, {example(), math.MaxInt, nil, nil, api.ErrLostAsk}, {example(), math.MinInt, nil, nil, api.ErrLostAsk},
	} {
		s, l, e := lost.Where(x.b, x.minute)
		if !slices.Equal(s, x.stations) || !slices.Equal(l, x.trains) || e != x.e {
			t.Errorf("Where %d: %v, %v, %d", i, s, l, e)
		}
	}
}

// P10.4: between what a train is late.
func TestLate(t *testing.T) {
	for i, x := range []struct {
		b     api.LostBook
		train int
		want  api.Span
		e     api.Errno
	}{
		// the examples
		{both(atStation(1, 562)), 0, span(0, 2), api.OK}, {both(), 2, span(0, 60), api.OK},
		{both(), 0, span(0, 20), api.OK}, {example(), 0, span(0, 20), api.OK}, {example(), 3, span(0, 10), api.OK}, {example(late(1, 4, 5)), 1, span(4, 5), api.OK},
		// so late that the box goes by it
		{example(at(500), sights(notAt(0, 600))), 0, span(10, 20), api.OK}, {example(at(500)), 0, span(0, 20), api.OK}, {example(at(510), sights(notAt(0, 600))), 0, span(20, 20), api.OK}, {gone(), 0, span(0, 20), api.OK},
		// not so late that it misses the next one
		{example(late(0, 0, 90), sights(onTrain(1, 620))), 0, span(0, 35), api.OK}, {example(late(0, 0, 90), sights(onTrain(1, 600))), 0, span(0, 30), api.OK}, {example(late(0, 0, 90), sights(onTrain(1, 602))), 0, span(0, 32), api.OK}, {example(late(0, 0, 90), sights(onTrain(1, 620))), 1, span(0, 5), api.OK}, {example(late(0, 0, 90), sights(onTrain(1, 620), notOn(1, 603))), 1, span(4, 5), api.OK}, {example(late(0, 0, 90), sights(notAt(0, 700))), 0, span(0, 90), api.OK},
		// so late that the train before is in time
		{example(late(0, 33, 40), sights(onTrain(1, 620))), 1, span(3, 5), api.OK}, {example(late(0, 33, 40), sights(onTrain(1, 620))), 0, span(33, 35), api.OK}, {example(late(0, 35, 40), sights(onTrain(1, 620))), 1, span(5, 5), api.OK}, {example(late(0, 33, 40)), 1, span(0, 5), api.OK}, {example(at(525), late(0, 0, 40), sights(onTrain(1, 620))), 0, span(35, 35), api.OK}, {example(at(525), late(0, 0, 40), sights(onTrain(1, 620))), 1, span(5, 5), api.OK},
		// as the sights let it
		{gone(notOn(0, 505)), 0, span(6, 20), api.OK}, {gone(onTrain(0, 505)), 0, span(0, 5), api.OK}, {gone(onTrain(0, 505), notOn(0, 504)), 0, span(5, 5), api.OK}, {sighted(onTrain(0, 559), atStation(1, 560)), 0, span(0, 0), api.OK}, {sighted(onTrain(0, 570), atStation(1, 571)), 0, span(11, 11), api.OK}, {sighted(onTrain(2, 750)), 2, span(0, 50), api.OK}, {sighted(onTrain(2, 820)), 2, span(21, 60), api.OK}, {sighted(atStation(2, 820)), 2, span(0, 60), api.OK}, {sighted(atStation(2, 820), atStation(0, 650)), 2, span(0, 20), api.OK},
		// by one journey or by another one
		{sighted(notAt(0, 719), atStation(0, 650)), 2, span(0, 60), api.OK}, {sighted(notAt(0, 719), atStation(0, 650), notAt(1, 719)), 2, span(0, 19), api.OK}, {sighted(atStation(0, 719)), 2, span(0, 60), api.OK}, {sighted(atStation(0, 719), notAt(0, 900)), 2, span(20, 60), api.OK}, {simple(line(runs(0, 9, stop(0, 110, 110), stop(1, 120, 120), stop(1, 130, 130))), sights(onTrain(0, 122), notAt(0, 115))), 0, span(0, 5), api.OK}, {simple(line(runs(0, 9, stop(0, 110, 110), stop(1, 120, 120), stop(1, 130, 130))), sights(onTrain(0, 122))), 0, span(0, 9), api.OK}, {simple(line(runs(0, 9, stop(0, 110, 110), stop(1, 120, 120), stop(1, 130, 130))), sights(onTrain(0, 122), notAt(1, 131))), 0, span(2, 9), api.OK},
		// wrong questions come first
		{torn(), 0, span(0, 0), api.ErrLostFalse}, {torn(), 3, span(0, 0), api.ErrLostFalse}, {torn(), 4, span(0, 0), api.ErrLostAsk}, {torn(), -1, span(0, 0), api.ErrLostAsk}, {example(), 4, span(0, 0), api.ErrLostAsk}, {example(), -1, span(0, 0), api.ErrLostAsk}, {example(), math.MaxInt, span(0, 0), api.ErrLostAsk}, {example(), math.MinInt, span(0, 0), api.ErrLostAsk}, {example(trains()), 0, span(0, 0), api.ErrLostAsk},
	} {
		if s, e := lost.Late(x.b, x.train); s != x.want || e != x.e {
			t.Errorf("Late %d: %v, %d", i, s, e)
		}
	}
}

// P10.5: the fewest sights that must be wrong.
func TestWrong(t *testing.T) {
	for i, x := range []struct {
		b    api.LostBook
		want []int
	}{
		// the examples
		{both(), nil}, {both(atStation(2, 630)), []int{2}},
		{example(), nil}, {gone(), nil}, {torn(), []int{0}}, {example(trains(), sights(atStation(1, 900))), []int{0}}, {sighted(notAt(0, 480)), []int{0}},
		// the fewest, though others come first
		{sighted(atStation(0, 650), notAt(0, 600)), []int{0}}, {sighted(atStation(0, 650), atStation(0, 900), notAt(0, 600)), []int{2}}, {sighted(notAt(0, 600), atStation(0, 650), atStation(0, 900)), []int{0}}, {sighted(atStation(0, 650), notAt(0, 600), atStation(0, 900)), []int{1}}, {sighted(notAt(0, 500), notAt(0, 501), atStation(0, 650)), []int{2}},
		// of several lists the first one
		{sighted(atStation(0, 650), atStation(1, 650), atStation(2, 650)), []int{0, 1}}, {sighted(atStation(0, 650), atStation(0, 651), atStation(1, 650), atStation(1, 651)), []int{0, 1}}, {sighted(atStation(0, 650), atStation(1, 650), atStation(1, 651), atStation(0, 651)), []int{0, 3}}, {sighted(atStation(1, 650), atStation(0, 650), atStation(0, 651), atStation(1, 651)), []int{0, 3}}, {sighted(onTrain(2, 690), onTrain(3, 720)), []int{0, 1}}, {sighted(onTrain(2, 690), atStation(1, 800), onTrain(3, 720)), []int{0, 2}},
		// the list that begins sooner, though it ends later
		{sighted(atStation(0, 700), onTrain(0, 540), onTrain(0, 541), atStation(0, 701)), []int{0, 3}}, {sighted(atStation(0, 700), onTrain(0, 700), atStation(0, 701), notAt(0, 702), atStation(1, 701), atStation(1, 700)), []int{0, 1, 2}},
		// all of them
		{sighted(onTrain(0, 700), onTrain(1, 700), onTrain(2, 699), onTrain(3, 689), notAt(0, 480), atStation(1, 480)), []int{0, 1, 2, 3, 4, 5}}, {sighted(onTrain(0, 700)), []int{0}},
		// sights of one train that do not go together
		{sighted(onTrain(0, 500), notOn(0, 510), onTrain(0, 520)), []int{0}}, {sighted(onTrain(0, 500), onTrain(0, 504), notOn(0, 510), onTrain(0, 520)), []int{2}}, {sighted(notOn(0, 509), onTrain(0, 510), onTrain(0, 650)), []int{1}}, {sighted(onTrain(0, 650), onTrain(0, 509), atStation(0, 505)), []int{0}}, {sighted(onTrain(0, 650), onTrain(0, 509), onTrain(0, 655)), []int{1}},
	} {
		if l, e := lost.Wrong(x.b); !slices.Equal(l, x.want) || e != api.OK {
			t.Errorf("Wrong %d: %v, %d", i, l, e)
		}
	}
}

// P10.6: which station is asked best.
func TestAsk(t *testing.T) {
	// Boxes from 0 go to 1 by two trains, to 2 by one, one after another.
	fan := line(runs(0, 0, stop(0, 110, 110), stop(1, 115, 115)), runs(0, 0, stop(0, 120, 120), stop(1, 125, 125)), runs(0, 0, stop(0, 130, 130), stop(2, 135, 135)))
	for i, x := range []struct {
		b            api.LostBook
		minute, want int
		e            api.Errno
	}{
		// the examples
		{gone(), 700, 1, api.OK}, {both(), 700, 1, api.OK},
		// at 1000 one journey of four is at 0, two are at 1, one is at 2
		{simple(fan), 1000, 1, api.OK}, {simple(fan, sights(notAt(0, 1000))), 1000, 1, api.OK}, {simple(fan, sights(notAt(1, 1000))), 1000, 0, api.OK}, {simple(fan, sights(notAt(2, 1000))), 1000, 0, api.OK}, {simple(fan, sights(notOn(0, 112), notAt(0, 1000))), 1000, 1, api.OK},
		// of several ones the first one
		{simple(fan), 100, 0, api.OK}, {simple(fan), 112, 0, api.OK}, {simple(fan), 117, 0, api.OK}, {simple(fan), 122, 0, api.OK}, {simple(fan), 127, 0, api.OK}, {simple(fan), 135, 1, api.OK}, {both(), 480, 0, api.OK}, {both(), 530, 0, api.OK}, {example(), 2999, 2, api.OK},
		// stations where a journey can be, or not
		{gone(), 562, 0, api.OK}, {gone(), 580, 1, api.OK}, {gone(), 600, 1, api.OK}, {gone(), 605, 1, api.OK}, {both(), 640, 1, api.OK}, {both(), 650, 1, api.OK}, {both(), 659, 1, api.OK},
		// just one journey, and none
		{sighted(atStation(0, 2000)), 700, 0, api.ErrNone}, {example(legs(0)), 480, 0, api.ErrNone}, {example(trains()), 2999, 0, api.ErrNone}, {sighted(onTrain(3, 700)), 700, 0, api.ErrNone},
		{torn(), 700, 0, api.ErrLostFalse}, {torn(), 479, 0, api.ErrLostAsk}, {torn(), 3000, 0, api.ErrLostAsk}, {example(), 3000, 0, api.ErrLostAsk}, {example(), 479, 0, api.ErrLostAsk}, {example(legs(0)), 479, 0, api.ErrLostAsk}, {example(), math.MaxInt, 0, api.ErrLostAsk}, {example(), math.MinInt, 0, api.ErrLostAsk},
	} {
		if n, e := lost.Ask(x.b, x.minute); n != x.want || e != x.e {
			t.Errorf("Ask %d: %d, %d", i, n, e)
		}
	}
}

package train

import "bioscope/api"

// box is one that is handed in, in a minute, to go by a route.
type box struct {
	table
	rides []ride
	at    int
}

// knowBox returns a box for the calculation, if the timetable is valid, and what is asked is about a route and a minute.
func knowBox(t api.TrainTable, route []api.TrainLeg, at int) (box, api.Errno) {
	k, e := know(t)
	if e != api.OK {
		return box{}, e
	}
	rides, is := k.ridesOf(route)
	if !is || !isMinute(at) {
		return box{}, api.ErrTrainAsk
	}
	return box{k, rides, at}, api.OK
}

// ridesOf returns what the legs of a route tell, and whether they are a route.
func (t table) ridesOf(route []api.TrainLeg) ([]ride, bool) {
	if len(route) == 0 || len(route) > api.TrainLegs {
		return nil, false
	}
	var rides []ride
	var used, none trains
	station := 0
	for _, leg := range route {
		r, is := t.rides[leg]
		if !is || used[leg.Train] || used != none && r.from != station {
			return nil, false
		}
		used[leg.Train] = true
		rides, station = append(rides, r), r.to
	}
	return rides, station != rides[0].from
}

// isTaken reports whether the box can be handed in, in its minute.
func (b box) isTaken() bool { return b.isOpen(b.rides[0].from, b.at) }

// follow returns when the box arrives by its route if it must go as surely as that, and all legs by which it does not.
func (b box) follow(surely int) (arrives int, missed []int) {
	arrival := arrivals()[surely]
	arrives = b.at
	for i, r := range b.rides {
		next, goes := arrival(r, arrives+b.Load)
		if !goes {
			missed = append(missed, i)
		}
		arrives = next
	}
	return arrives, missed
}

// goes returns how surely the box goes.
func (b box) goes() int {
	if !b.isTaken() {
		return api.TrainNo
	}
	for _, surely := range [...]int{api.TrainYes, api.TrainMay} {
		if _, missed := b.follow(surely); len(missed) == 0 {
			return surely
		}
	}
	return api.TrainNo
}

// there returns the minute in which the box is there, if it goes: at the soonest for one that perhaps goes, at the latest for one that surely does.
func (b box) there(surely int) int {
	arrives, _ := b.follow(surely)
	return b.firstOpen(b.rides[len(b.rides)-1].to, arrives+b.Load)
}

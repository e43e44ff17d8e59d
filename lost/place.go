package lost

import "bioscope/api"

// place is where a box is: the number of a station, or, behind those of all stations, that of a train.
type place int

func at(station int) place { return place(station) }

func on(train int) place { return place(api.TrainStations + train) }

func (p place) isAt(station int) bool { return p == at(station) }

func (p place) isOn(train int) bool { return p == on(train) }

// Who says something.
const (
	office = iota
	guard
)

func sayerOf(s api.LostSight) int {
	if s.Guard {
		return guard
	}
	return office
}

// saying is what somebody means who says that the box is there.
type saying func(p place, who int) bool

// sayings returns what offices and what guards mean.
func sayings() [2]saying { return [...]saying{office: place.isAt, guard: place.isOn} }

// places tells of each place if it is meant.
type places [api.TrainStations + api.TrainTrains]bool

func placesOf(all ...place) (p places) {
	for _, one := range all {
		p[one] = true
	}
	return p
}

func union(all ...places) (p places) {
	for _, some := range all {
		for i, is := range some {
			p[i] = p[i] || is
		}
	}
	return p
}

func (p places) stations() []int { return marked(p[:api.TrainStations:api.TrainStations]) }

func (p places) trains() []int { return marked(p[api.TrainStations:len(p):len(p)]) }

// marked returns the numbers of all that are true, increasing.
func marked(all []bool) (numbers []int) {
	for i, is := range all {
		if is {
			numbers = append(numbers, i)
		}
	}
	return numbers
}

package tour

import (
	"bioscope/api"
	"bioscope/licence"
)

// set tells of each town whether there was a stay; the zero value has none.
type set [api.TourTowns]bool

// with returns a set that has a town besides.
func (s set) with(town int) set {
	s[town] = true
	return s
}

// halt is a town, and the last day there.
type halt struct{ town, last int }

// home stands for what is before the first stay.
func (k book) home() halt { return halt{k.From, k.Begin} }

// soonest returns the first day on which a stay in a town can begin behind a halt.
func (k book) soonest(behind halt, town int) int {
	return behind.last + k.Roads[behind.town][town]
}

func (k book) canFollow(behind halt, s api.TourStay) bool {
	return k.hasTown(s.Town) && isDay(s.Last) && k.soonest(behind, s.Town) <= s.First && s.First <= s.Last
}

func (k book) isTour(tour []api.TourStay) bool {
	var visited set
	behind := k.home()
	for _, s := range tour {
		if !k.canFollow(behind, s) || visited[s.Town] {
			return false
		}
		visited, behind = visited.with(s.Town), halt{s.Town, s.Last}
	}
	return true
}

func (k book) next(tour []api.TourStay) []int {
	var visited set
	behind := k.home()
	for _, s := range tour {
		visited, behind = visited.with(s.Town), halt{s.Town, s.Last}
	}
	days := make([]int, len(k.Towns))
	for town := range days {
		days[town] = k.soonest(behind, town)
		if visited[town] {
			days[town] = -1
		}
	}
	return days
}

func where(tour []api.TourStay, day int) int {
	for _, s := range tour {
		if s.First <= day && day <= s.Last {
			return s.Town
		}
	}
	return -1
}

// ofFair returns the days of a stay that are of the fair of its town.
func (k book) ofFair(s api.TourStay) (days []int) {
	fair := k.Towns[s.Town].Fair
	for i := range fair.High - fair.Low + 1 {
		if day := fair.Low + i; s.First <= day && day <= s.Last {
			days = append(days, day)
		}
	}
	return days
}

func (k book) papers(tour []api.TourStay, today int) (int, api.Errno) {
	all := 0
	for _, s := range tour {
		fee, e := licence.Fee(k.Towns[s.Town].Licence, today, k.ofFair(s))
		if e != api.OK {
			return 0, e
		}
		all += fee
	}
	return all, api.OK
}

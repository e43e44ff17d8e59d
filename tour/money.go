package tour

import (
	"cmp"
	"iter"
	"slices"

	"bioscope/api"
)

// account is a book of which one end of all takings is meant.
type account struct {
	book
	end func(api.Span) int
}

func least(s api.Span) int { return s.Low }

func most(s api.Span) int { return s.High }

// visit is a day in a town, and the town in which the cinema was before: the same one on all days of a stay but the first one.
type visit struct{ from, town, day int }

// road is what the road to a visit costs; within a town it takes no days.
func (a account) road(v visit) int { return -a.Cost * a.Roads[v.from][v.town] }

func (a account) upkeep(visit) int { return -a.Keep }

func (a account) takings(v visit) int {
	if !slices.Contains(a.shown[v.town], v.day) {
		return 0
	}
	return a.end(a.Towns[v.town].Take)
}

// changes produces by how much the money changes for a visit, in the order in which it does.
func (a account) changes(v visit) iter.Seq[int] {
	return func(yield func(int) bool) {
		for _, change := range [...]func(account, visit) int{account.road, account.upkeep, account.takings} {
			if !yield(change(a, v)) {
				return
			}
		}
	}
}

// visits produces all days of the stays of a tour.
func (k book) visits(tour []api.TourStay) iter.Seq[visit] {
	return func(yield func(visit) bool) {
		from := k.From
		for _, s := range tour {
			for i := range s.Last - s.First + 1 {
				if !yield(visit{from, s.Town, s.First + i}) {
					return
				}
				from = s.Town
			}
		}
	}
}

// brings returns what a visit brings, less what it costs.
func (a account) brings(v visit) (all int) {
	for change := range a.changes(v) {
		all += change
	}
	return all
}

func (a account) worth(tour []api.TourStay) (all int) {
	for v := range a.visits(tour) {
		all += a.brings(v)
	}
	return all
}

// purse returns how much money there must be before a tour so that it is never below 0.
func (a account) purse(tour []api.TourStay) int {
	need, money := 0, 0
	for v := range a.visits(tour) {
		for change := range a.changes(v) {
			money += change
			need = greatest(need, -money)
		}
	}
	return need
}

func greatest[N cmp.Ordered](first N, others ...N) N {
	for _, n := range others {
		first = max(first, n)
	}
	return first
}

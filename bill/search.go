package bill

import (
	"iter"
	"slices"

	"bioscope/api"
)

// set tells of each film whether it is on a bill; the zero value has none.
type set [api.BillFilms]bool

// isBill reports whether films are a bill.
func (k book) isBill(films []int) bool {
	var on set
	for _, film := range films {
		if !k.hasFilm(film) || on[film] {
			return false
		}
		on[film] = true
	}
	return on != (set{})
}

// bills produces all bills, the first one first, compared element by element; each list is only good until the next one.
func (k book) bills() iter.Seq[[]int] {
	return func(yield func([]int) bool) {
		bill := make([]int, len(k.Films))
		var try func(place int, on set) bool
		try = func(place int, on set) bool {
			if on != (set{}) && !yield(bill[:place:place]) {
				return false
			}
		next:
			for film := range len(k.Films) {
				if on[film] {
					continue next
				}
				bill[place] = film
				with := on
				with[film] = true
				if !try(place+1, with) {
					return false
				}
			}
			return true
		}
		try(0, set{})
	}
}

// choice tells which bills can be chosen, and whether one is better than another one.
type choice struct {
	fits   func(bill []int) bool
	better func(one, other []int) bool
}

// choose returns the best bill that fits, the first one of several; none if no bill does.
func (k book) choose(c choice) (best []int) {
	for bill := range k.bills() {
		if c.fits(bill) && (len(best) == 0 || c.better(bill, best)) {
			best = slices.Clone(bill)
		}
	}
	return best
}

func (v evening) best() []int { return v.choose(choice{fits: v.isFine, better: v.isFuller}) }

// isFuller reports whether a bill has more films than another one, or as many, and surely is over sooner.
func (v evening) isFuller(one, other []int) bool {
	if len(one) != len(other) {
		return len(one) > len(other)
	}
	return v.over(one) < v.over(other)
}

// over returns the last minute in which the last film of a bill can be over.
func (v evening) over(bill []int) int {
	starts := v.starts(bill, most)
	return v.ending(starts[len(starts)-1], most).minute
}

// cut is an evening for which films may have to be left out of a bill.
type cut struct {
	evening
	whole []int
}

func (v evening) leave(bill []int) []int {
	c := cut{v, bill}
	return c.left(v.choose(choice{fits: c.isFineRest, better: c.leavesLess}))
}

// isFineRest reports whether a fine bill is what is left of the whole one, in its order.
func (c cut) isFineRest(bill []int) bool {
	rest := bill
	for _, film := range c.whole {
		if len(rest) > 0 && rest[0] == film {
			rest = rest[1:]
		}
	}
	return len(rest) == 0 && c.isFine(bill)
}

// left returns the places of the whole bill whose films are not on another one.
func (c cut) left(bill []int) (places []int) {
	for place, film := range c.whole {
		if !slices.Contains(bill, film) {
			places = append(places, place)
		}
	}
	return places
}

// leavesLess reports whether fewer places are left out for a bill than for another one, or as many that come first.
func (c cut) leavesLess(one, other []int) bool {
	if len(one) != len(other) {
		return len(one) > len(other)
	}
	return slices.Compare(c.left(one), c.left(other)) < 0
}

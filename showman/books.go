package showman

import (
	"slices"

	"bioscope/api"
)

// noShow stands where there is no show yet: it is on no day.
var noShow = api.ShowmanShow{Day: -1}

// tally is how many showings each film had.
type tally [api.ShowmanFilms]int

// films tells of each film if it is meant.
type films [api.ShowmanFilms]bool

// books are what a clerk has. A copy of them can be changed by itself: their lists are never written over.
type books struct {
	setup    api.ShowmanSetup
	day      int
	purse    int
	licences []api.LicencePaper
	shows    [api.ShowmanShows]api.ShowmanShow
	showings tally
	away     films
	tickets  [api.TillRolls]int
	journal  []string
}

// booksOf returns what a new clerk has.
func booksOf(s api.ShowmanSetup) books {
	b := books{setup: s, purse: s.Purse, licences: s.Town.Held}
	for i := range b.shows {
		b.shows[i] = noShow
	}
	return b
}

// numbers returns those of the films that are meant, increasing.
func (f films) numbers() (all []int) {
	for film, is := range f {
		if is {
			all = append(all, film)
		}
	}
	return all
}

// manyShows returns how many shows there are.
func (b *books) manyShows() int {
	if many := slices.Index(b.shows[:], noShow); many >= 0 {
		return many
	}
	return len(b.shows)
}

// allShows returns a copy of the shows. There is none before the first showing.
func (b *books) allShows() []api.ShowmanShow {
	if b.showings == (tally{}) {
		return nil
	}
	many := b.manyShows()
	return copied(b.shows[:many:many])
}

// nextTickets returns the number of the next ticket of each roll.
func (b *books) nextTickets() []int {
	many := len(b.setup.Prices)
	return b.tickets[:many:many]
}

// town returns that of the setup, with the licences of the clerk.
func (b *books) town() api.LicenceTown {
	t := b.setup.Town
	t.Held = b.licences
	return t
}

// box returns that of the setup, with the money that was counted, and with the next ticket of each roll in the beginning and in the end.
func (b *books) box(count int, ends []int) api.TillBox {
	x := boxOf(b.setup)
	x.Count = count
	for roll, next := range b.nextTickets() {
		x.Rolls[roll].First, x.Rolls[roll].End = just(next), just(ends[roll])
	}
	return x
}

// just returns the span of one number.
func just(n int) api.Span { return api.Span{Low: n, High: n} }

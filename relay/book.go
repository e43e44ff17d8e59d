package relay

import (
	"bioscope/api"
	"bioscope/reel"
)

// bookBounds is between what lie the Shows of a book, and its Carry.
var bookBounds = [...]api.Span{
	{Low: 0, High: api.RelayShows},
	{Low: 1, High: api.RelayCarry},
}

// rideBounds is between what the spans Go and Back of a book lie.
var rideBounds = [...]api.Span{
	{Low: 0, High: api.RelayRide},
	{Low: 0, High: api.RelayRide},
}

// book is a valid one, with its reels in their order, and how long they last where that was found out already.
type book struct {
	api.RelayBook
	order []int
	found map[showing]lengths
}

// know returns a book for the calculation, if it is valid.
func know(b api.RelayBook) (book, api.Errno) {
	order, e := reel.First(b.Film)
	if e != api.OK || !isRelay(b) {
		return book{}, api.ErrRelay
	}
	return book{RelayBook: b, order: order, found: map[showing]lengths{}}, api.OK
}

// knowPlan returns a book for the calculation, if it is valid, and trips are a plan of it, and what is told as starts are some.
func knowPlan(b api.RelayBook, plan []int, starts ...int) (book, api.Errno) {
	k, e := know(b)
	if e != api.OK {
		return book{}, e
	}
	if !areAll(k.isPlan, plan) || !areAll(isStart, starts...) {
		return book{}, api.ErrRelayAsk
	}
	return k, api.OK
}

// knowStart returns a book for the calculation, if it is valid, and the second tent can begin in a second.
func knowStart(b api.RelayBook, start int) (book, api.Errno) {
	k, e := know(b)
	if e != api.OK {
		return book{}, e
	}
	if !isStart(start) {
		return book{}, api.ErrRelayAsk
	}
	return k, api.OK
}

// areAll reports whether each one of some values is of some sort.
func areAll[V any](is func(V) bool, values ...V) bool {
	for _, v := range values {
		if !is(v) {
			return false
		}
	}
	return true
}

// isRelay reports whether all is valid that a book has besides its film.
func isRelay(b api.RelayBook) bool {
	for i, n := range [...]int{b.Shows, b.Carry} {
		if !isWithin(n, bookBounds[i]) {
			return false
		}
	}
	for i, s := range [...]api.Span{b.Go, b.Back} {
		if !isSpan(s, rideBounds[i]) {
			return false
		}
	}
	return true
}

func (k book) isPlan(plan []int) bool {
	rest := len(k.order)
	for _, trip := range plan {
		if trip < 1 || trip > k.Carry {
			return false
		}
		rest -= trip
	}
	return rest == 0
}

func isStart(start int) bool { return start >= 0 && start <= api.RelayStart }

func isWithin(n int, within api.Span) bool { return within.Low <= n && n <= within.High }

func isSpan(s, within api.Span) bool {
	return within.Low <= s.Low && s.Low <= s.High && s.High <= within.High
}

// showing is a reel, by its place in the order, and how often it was shown before the first tent shows it.
type showing struct{ reel, shows int }

// lengths is between what lies how long a reel lasts in both tents; the zero value is nothing.
type lengths [2]api.Span

// lasts returns how long a reel lasts in both tents.
func (k book) lasts(s showing) lengths {
	l := k.found[s]
	if l != (lengths{}) {
		return l
	}
	// That there is nothing may also be true: then nothing is left of the reel, and nothing is found once more.
	for tent := range l {
		// There is no error: it is a reel of a valid film, and Shows is one less than showings can be.
		l[tent], _ = reel.Lasts(k.Film, k.order[s.reel:s.reel+1:s.reel+1], s.shows+tent)
	}
	k.found[s] = l
	return l
}

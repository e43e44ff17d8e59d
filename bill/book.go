package bill

import (
	"bioscope/api"
	"bioscope/licence"
	"bioscope/reel"
)

// bookBounds is between what lie the Day of a book, and how many Films it has.
var bookBounds = [...]api.Span{
	{Low: 0, High: api.MaxDay},
	{Low: 1, High: api.BillFilms},
}

// spanBounds is between what lie the spans Change and Pause of a book.
var spanBounds = [...]api.Span{
	{Low: 0, High: api.BillChange},
	{Low: 0, High: api.BillPause},
}

// filmBounds is between what lie Film, Shows, From and Until of a film.
var filmBounds = [...]api.Span{
	{Low: 0, High: api.LicenceFilms - 1},
	{Low: 0, High: api.ReelShows},
	{Low: 0, High: api.LicenceMinute},
	{Low: 0, High: api.LicenceMinute},
}

// Tenths of a second, in which all is calculated.
const (
	second = 10
	minute = 60 * second
)

// book is a valid one, with between what lies how many tenths of a second each film lasts, and what was found out of films already.
type book struct {
	api.BillBook
	lasts [api.BillFilms]api.Span
	found map[start]int
}

// know returns a book for the calculation, if it is valid.
func know(b api.BillBook) (book, api.Errno) {
	if !isBook(b) {
		return book{}, api.ErrBill
	}
	k := book{BillBook: b, found: map[start]int{}}
	for film := range len(k.Films) {
		lasts, e := k.long(k.Films[film])
		if e != api.OK {
			return book{}, api.ErrBill
		}
		k.lasts[film] = lasts
	}
	return k, api.OK
}

// isBook reports whether a book is valid, but for what its films' reels are.
func isBook(b api.BillBook) bool {
	for i, n := range [...]int{b.Day, len(b.Films)} {
		if !isWithin(n, bookBounds[i]) {
			return false
		}
	}
	for i, s := range [...]api.Span{b.Change, b.Pause} {
		if !isSpan(s, spanBounds[i]) {
			return false
		}
	}
	for _, f := range b.Films {
		if !isFilm(f) {
			return false
		}
	}
	return licence.Check(b.Town) == api.OK
}

func isFilm(f api.BillFilm) bool {
	for i, n := range [...]int{f.Film, f.Shows, f.From, f.Until} {
		if !isWithin(n, filmBounds[i]) {
			return false
		}
	}
	return f.From <= f.Until
}

// long returns between what lies how many tenths of a second a film lasts, or an error if its reels have no order, or no spools.
func (k book) long(f api.BillFilm) (api.Span, api.Errno) {
	order, e := reel.First(f.Reels)
	if e != api.OK {
		return api.Span{}, e
	}
	spools, e := reel.Spools(f.Reels, order, f.Shows)
	if e != api.OK {
		return api.Span{}, e
	}
	lasts, e := reel.Lasts(f.Reels, order, f.Shows)
	if e != api.OK || k.Two {
		return lasts, e
	}
	changes := (len(spools) - 1) * second
	return api.Span{Low: lasts.Low + changes*k.Change.Low, High: lasts.High + changes*k.Change.High}, api.OK
}

func (k book) hasFilm(film int) bool { return film >= 0 && film < len(k.Films) }

func isMinute(at int) bool { return at >= 0 && at <= api.LicenceMinute }

func isWithin(n int, within api.Span) bool { return within.Low <= n && n <= within.High }

func isSpan(s, within api.Span) bool {
	return within.Low <= s.Low && s.Low <= s.High && s.High <= within.High
}

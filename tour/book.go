package tour

import (
	"bioscope/api"
	"bioscope/licence"
)

// bookBounds is between what lie how many Towns a book has, its Begin, its Cost and its Keep.
var bookBounds = [...]api.Span{
	{Low: 1, High: api.TourTowns},
	{Low: 0, High: api.MaxDay},
	{Low: 0, High: api.TourCost},
	{Low: 0, High: api.TourCost},
}

// townBounds is between what lie the spans Fair and Take of a town.
var townBounds = [...]api.Span{
	{Low: 0, High: api.MaxDay},
	{Low: 0, High: api.TourTake},
}

// roadBounds is between what lies how many days a road takes, to the same town and to another one.
var roadBounds = [...]api.Span{
	{Low: 0, High: 0},
	{Low: 1, High: api.TourRoad},
}

// book is a valid one, with the days of each fair on which something may be shown.
type book struct {
	api.TourBook
	shown [api.TourTowns][]int
}

// know returns a book for the calculation, if it is valid.
func know(b api.TourBook) (book, api.Errno) {
	k := book{TourBook: b}
	if !k.isBook() {
		return book{}, api.ErrTour
	}
	for i, t := range k.Towns {
		// There is no error: the licences are those of a valid town, and the fair is a span of days.
		k.shown[i], _ = licence.Days(t.Licence, t.Fair)
	}
	return k, api.OK
}

// knowTour returns a book for the calculation, if it is valid, and stays are a tour of it, and what is told as days are some.
func knowTour(b api.TourBook, tour []api.TourStay, days ...int) (book, api.Errno) {
	k, e := know(b)
	if e != api.OK {
		return book{}, e
	}
	if !areAll(k.isTour, tour) || !areAll(isDay, days...) {
		return book{}, api.ErrTourAsk
	}
	return k, api.OK
}

// areAll reports whether each one of some values is of some sort.
func areAll[V any](is func(V) bool, values ...V) bool {
	for _, v := range values {
		if !is(v) {
			return false
		}
	}
	return true
}

func (k book) isBook() bool {
	for i, n := range [...]int{len(k.Towns), k.Begin, k.Cost, k.Keep} {
		if !isWithin(n, bookBounds[i]) {
			return false
		}
	}
	return k.hasTown(k.From) && areAll(isTown, k.Towns...) && k.areRoads()
}

func isTown(t api.TourTown) bool {
	for i, s := range [...]api.Span{t.Fair, t.Take} {
		if !isSpan(s, townBounds[i]) {
			return false
		}
	}
	return t.Fair.High-t.Fair.Low < api.TourFair && licence.Check(t.Licence) == api.OK
}

func (k book) areRoads() bool {
	if len(k.Roads) != len(k.Towns) {
		return false
	}
	for from, row := range k.Roads {
		if len(row) != len(k.Towns) {
			return false
		}
		for to, days := range row {
			kind := 0
			if to != from {
				kind = 1
			}
			if !isWithin(days, roadBounds[kind]) {
				return false
			}
		}
	}
	return true
}

func (k book) hasTown(town int) bool { return town >= 0 && town < len(k.Towns) }

func isDay(n int) bool { return n >= 0 && n <= api.MaxDay }

func isWithin(n int, within api.Span) bool { return within.Low <= n && n <= within.High }

func isSpan(s, within api.Span) bool {
	return within.Low <= s.Low && s.Low <= s.High && s.High <= within.High
}

package lost

import (
	"bioscope/api"
	"bioscope/train"
)

// bookBounds is between what lie At and Legs of a book, and how many Sights it has.
var bookBounds = [...]api.Span{
	{Low: 0, High: api.TrainMinute},
	{Low: 0, High: api.LostLegs},
	{Low: 0, High: api.LostSights},
}

// book is a valid one, with what its sights say, and the minutes that are looked at: those of the sights, and behind them the one that is asked about.
type book struct {
	api.LostBook
	says    []saying
	minutes []int
	rides   map[api.TrainLeg][]ride
	phases  map[ride]phases
}

// know returns a book for the calculation, if it is valid, and what is asked about are minutes of it.
func know(b api.LostBook, asked ...int) (book, api.Errno) {
	if !isBook(b) {
		return book{}, api.ErrLost
	}
	k := book{LostBook: b, rides: map[api.TrainLeg][]ride{}, phases: map[ride]phases{}}
	for _, s := range b.Sights {
		k.says = append(k.says, sayings()[sayerOf(s)])
		k.minutes = append(k.minutes, s.Minute)
	}
	for _, minute := range asked {
		if !isAsked(b, minute) {
			return book{}, api.ErrLostAsk
		}
		k.minutes = append(k.minutes, minute)
	}
	for leg := range k.legs(trains{}) {
		k.learn(leg)
	}
	return k, api.OK
}

func isBook(b api.LostBook) bool {
	for i, n := range [...]int{b.At, b.Legs, len(b.Sights)} {
		if !isWithin(n, bookBounds[i]) {
			return false
		}
	}
	for _, s := range b.Sights {
		if !isSight(b, s) {
			return false
		}
	}
	return isBelow(b.From, len(b.Table.Offices)) && train.Check(b.Table) == api.OK
}

func isSight(b api.LostBook, s api.LostSight) bool {
	sayers := [...]int{len(b.Table.Offices), len(b.Table.Trains)}
	return isBelow(s.Who, sayers[sayerOf(s)]) && isAsked(b, s.Minute)
}

// isAsked reports whether somebody can say, or can be asked, where the box is in a minute.
func isAsked(b api.LostBook, minute int) bool {
	return isWithin(minute, api.Span{Low: b.At, High: api.LostMinute})
}

func isWithin(n int, within api.Span) bool { return within.Low <= n && n <= within.High }

func isBelow(n, many int) bool { return n >= 0 && n < many }

// from returns the stop at which a leg begins.
func (k book) from(leg api.TrainLeg) api.TrainStop { return k.Table.Trains[leg.Train].Stops[leg.From] }

// to returns the stop at which a leg ends.
func (k book) to(leg api.TrainLeg) api.TrainStop { return k.Table.Trains[leg.Train].Stops[leg.To] }

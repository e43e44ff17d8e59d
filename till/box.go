package till

import "bioscope/api"

// boxBounds is between what lie how many Rolls a box has, its Count, its Err, its Duty, its Share and its Guarantee.
var boxBounds = [...]api.Span{
	{Low: 1, High: api.TillRolls},
	{Low: 0, High: api.TillMoney},
	{Low: 0, High: api.TillErr},
	{Low: 0, High: api.TillPart},
	{Low: 0, High: api.TillPart},
	{Low: 0, High: api.TillMoney},
}

// priceBounds is between what lies the Price of a roll.
var priceBounds = api.Span{Low: 1, High: api.TillPrice}

// ticketBounds is between what lie the spans First and End of a roll.
var ticketBounds = api.Span{Low: 0, High: api.TillTickets}

// freeBounds is between what lie the spans Free.
var freeBounds = api.Span{Low: 0, High: api.TillFree}

// box is a valid one, with between what lies how many tickets of each roll can be sold; Low is above High if that is no number.
type box struct {
	api.TillBox
	sales [api.TillRolls]api.Span
}

// know returns a box for the calculation, if it is valid.
func know(b api.TillBox) (box, api.Errno) {
	k := box{TillBox: b}
	if !k.isBox() {
		return box{}, api.ErrTill
	}
	for i, r := range k.Rolls {
		gone := difference(r.End, r.First)
		k.sales[i] = difference(gone, k.Free[i])
	}
	return k, api.OK
}

// knowTrue returns a box for the calculation, if it is valid, what is told as rolls are some, and there is a truth.
func knowTrue(b api.TillBox, rolls ...int) (box, api.Errno) {
	k, e := know(b)
	if e != api.OK {
		return box{}, e
	}
	if !areAll(k.hasRoll, rolls...) {
		return box{}, api.ErrTillAsk
	}
	if k.rightWays() == (tally{}) {
		return box{}, api.ErrTillNot
	}
	return k, api.OK
}

// areAll reports whether each one of some values is of some sort.
func areAll[V any](is func(V) bool, values ...V) bool {
	for _, v := range values {
		if !is(v) {
			return false
		}
	}
	return true
}

func (k box) isBox() bool {
	for i, n := range [...]int{len(k.Rolls), k.Count, k.Err, k.Duty, k.Share, k.Guarantee} {
		if !isWithin(n, boxBounds[i]) {
			return false
		}
	}
	return areAll(isRoll, k.Rolls...) && len(k.Free) == len(k.Rolls) && areAll(isFree, k.Free...)
}

func isRoll(r api.TillRoll) bool {
	return isWithin(r.Price, priceBounds) && isSpan(r.First, ticketBounds) && isSpan(r.End, ticketBounds) && r.First.Low <= r.End.High
}

func isFree(s api.Span) bool { return isSpan(s, freeBounds) }

func (k box) hasRoll(roll int) bool { return roll >= 0 && roll < len(k.Rolls) }

func isWithin(n int, within api.Span) bool { return within.Low <= n && n <= within.High }

func isSpan(s, within api.Span) bool {
	return within.Low <= s.Low && s.Low <= s.High && s.High <= within.High && s.High-s.Low <= api.TillSpan
}

// difference returns between what lies a number of one span, less one of another one, as far as it is not below 0; Low is above High if it is never so.
func difference(of, less api.Span) api.Span {
	return api.Span{Low: greatest(0, of.Low-less.High), High: of.High - less.Low}
}

// numbers returns how many numbers of tickets can be sold of a roll; none if it is not above 0.
func (k box) numbers(roll int) int { return k.sales[roll].High - k.sales[roll].Low + 1 }

// brings returns what so many tickets of each roll bring.
func (k box) brings(sold []int) (all int) {
	for roll, n := range sold {
		all += n * k.Rolls[roll].Price
	}
	return all
}

// least returns what it brings if of each roll the least number is sold.
func (k box) least() (all int) {
	for roll, r := range k.Rolls {
		all += k.sales[roll].Low * r.Price
	}
	return all
}

// right returns between what the takings lie in truths.
func (k box) right() api.Span { return api.Span{Low: k.Count - k.Err, High: k.Count + k.Err} }

func (k box) isTruth(sold []int) bool {
	if len(sold) != len(k.Rolls) {
		return false
	}
	for roll, n := range sold {
		if !isWithin(n, k.sales[roll]) {
			return false
		}
	}
	return isWithin(k.brings(sold), k.right())
}

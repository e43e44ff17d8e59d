package till

import (
	"iter"
	"math"

	"bioscope/api"
)

// taken is a roll, and what the tickets of all rolls before it brought: what can follow depends on nothing else.
type taken struct{ roll, amount int }

// truths produces a truth for each amount that the takings can be, and no other one; each list is only good until the next one.
func (k box) truths() iter.Seq[[]int] {
	return func(yield func([]int) bool) {
		var sold [api.TillRolls]int
		tried, right := map[taken]bool{}, k.right()
		var try func(now taken) bool
		try = func(now taken) bool {
			if tried[now] || now.amount+k.most(now.roll) < right.Low {
				return true
			}
			tried[now] = true
			if now.roll == len(k.Rolls) {
				return yield(sold[:now.roll:now.roll])
			}
		nextNumber:
			for more := range k.numbers(now.roll) {
				n := k.sales[now.roll].Low + more
				next := taken{now.roll + 1, now.amount + n*k.Rolls[now.roll].Price}
				if next.amount > right.High {
					break nextNumber
				}
				sold[now.roll] = n
				if !try(next) {
					return false
				}
			}
			return true
		}
		try(taken{})
	}
}

// most returns what it brings if of each roll, from one on, the greatest number is sold.
func (k box) most(from int) (all int) {
	for roll := from; roll < len(k.Rolls); roll++ {
		all += k.sales[roll].High * k.Rolls[roll].Price
	}
	return all
}

// What becomes of takings.
const (
	takings = iota
	duty
	hire
	left
)

// money is a box, and what its tickets brought.
type money struct {
	box
	takings int
}

// becomes returns for all that becomes of takings by what it is told.
func becomes() [left + 1]func(money) int {
	return [...]func(money) int{takings: money.all, duty: money.duty, hire: money.hire, left: money.left}
}

func (m money) all() int { return m.takings }

func (m money) duty() int { return hundredths(m.Duty, m.takings) }

func (m money) hire() int { return greatest(m.Guarantee, hundredths(m.Share, m.takings-m.duty())) }

func (m money) left() int { return m.takings - m.duty() - m.hire() }

func hundredths(part, of int) int { return part * of / api.TillPart }

// question tells which amount is asked for.
type question struct{ amount func(money) int }

// between returns between what lies what becomes of the takings in all truths.
func between(b api.TillBox, kind int) (api.Span, api.Errno) {
	k, e := knowTrue(b)
	if e != api.OK {
		return api.Span{}, e
	}
	return k.between(question{becomes()[kind]}), api.OK
}

// between returns between what lies what is asked for; there must be a truth.
func (k box) between(q question) api.Span {
	s := api.Span{Low: math.MaxInt, High: math.MinInt}
	for sold := range k.truths() {
		n := q.amount(money{k, k.brings(sold)})
		s = api.Span{Low: min(s.Low, n), High: greatest(s.High, n)}
	}
	return s
}

// wrong returns the least by which the count must be wrong.
func (k box) wrong() (int, api.Errno) {
	k.Err = api.TillErr
	least := api.TillErr + 1
	for sold := range k.truths() {
		more := k.brings(sold) - k.Count
		least = min(least, greatest(more, -more))
	}
	if least > api.TillErr {
		return 0, api.ErrNone
	}
	return least, api.OK
}

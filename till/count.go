package till

import (
	"cmp"
	"slices"

	"bioscope/api"
)

// apart is how far apart the ends of what can be sold of a roll lie, at most: First, End and Free are known as badly each.
const apart = 3 * api.TillSpan

// tally is in how many ways each amount can come together. Amounts are told by how much they are above what the least numbers of all tickets bring.
type tally [api.TillRolls*apart*api.TillPrice + 1]int

// with returns in how many ways each amount can come together with tickets of a roll besides.
func (t tally) with(price, numbers int) (all tally) {
	for amount, ways := range t {
		if ways == 0 {
			continue
		}
		for more := range numbers {
			all[amount+more*price] += ways
		}
	}
	return all
}

// part returns the ways of all amounts that lie in a span.
func (t *tally) part(within api.Span) []int {
	from := min(greatest(0, within.Low), len(t))
	to := min(greatest(from, within.High+1), len(t))
	return t[from:to:to]
}

// ways returns in how many ways each amount can come together by the tickets of all rolls but those that are left out.
func (k box) ways(out ...int) tally {
	t := tally{1}
	for roll, r := range k.Rolls {
		if !slices.Contains(out, roll) {
			t = t.with(r.Price, k.numbers(roll))
		}
	}
	return t
}

// rightAbove returns between what amounts lie in truths, if so much is told already.
func (k box) rightAbove(told int) api.Span {
	right := k.right()
	return api.Span{Low: right.Low - told, High: right.High - told}
}

// rightWays returns in how many ways each amount can come together that the takings can be.
func (k box) rightWays() (ways tally) {
	all, right := k.ways(), k.rightAbove(k.least())
	copy(ways.part(right), all.part(right))
	return ways
}

// many returns how many truths there are.
func (k box) many() int {
	ways := k.rightWays()
	return sum(ways[:]...)
}

// look is between what lies how many tickets of a roll can be sold, and how many truths there are with each one of these numbers.
type look struct {
	api.Span
	truths []int
}

func (k box) look(roll int) look {
	l := look{Span: k.sales[roll]}
	others, least, price := k.ways(roll), k.least(), k.Rolls[roll].Price
	for more := range k.numbers(roll) {
		l.truths = append(l.truths, sum(others.part(k.rightAbove(least+more*price))...))
	}
	return l
}

// can reports whether so many tickets are sold in some truth.
func (l look) can(sold int) bool { return isWithin(sold, l.Span) && l.truths[sold-l.Low] > 0 }

// worst returns how many truths are left at the worst, once it is known how many tickets were sold.
func (l look) worst() int { return greatest(0, l.truths...) }

// narrow returns between what lie the numbers of a span that are of some sort; there must be one.
func narrow(s api.Span, is func(int) bool) api.Span {
	for !is(s.Low) {
		s.Low++
	}
	for !is(s.High) {
		s.High--
	}
	return s
}

func sum(numbers ...int) (all int) {
	for _, n := range numbers {
		all += n
	}
	return all
}

func greatest[N cmp.Ordered](n N, others ...N) N {
	for _, other := range others {
		n = max(n, other)
	}
	return n
}

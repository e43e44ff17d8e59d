package reel

import "bioscope/api"

// span is a span that tells its ends.
type span api.Span

func (s span) least() int { return s.Low }

func (s span) most() int { return s.High }

// end is one of the two ends of what is known: adds tells that of a span which makes a number reach it, takes that of a span which is taken away.
type end struct{ adds, takes func(span) int }

// ends returns the end of what is the least, and that of what is the most.
func ends() (least, most end) {
	table := [...]end{
		{adds: span.least, takes: span.most},
		{adds: span.most, takes: span.least},
	}
	return table[0], table[1]
}

// between returns between what a number lies that is told for each end.
func between(number func(end) int) api.Span {
	least, most := ends()
	return api.Span{Low: number(least), High: number(most)}
}

func sum[T ~int](numbers ...T) T {
	var all T
	for _, n := range numbers {
		all += n
	}
	return all
}

// feet returns how many feet a reel has after some showings, at one end.
func (f film) feet(reel, shows int, e end) int {
	had, torn := e.adds(span(f.Reels[reel].Feet)), e.takes(span(f.Tear))
	return max(0, had-shows*torn)
}

func (f film) worn(reel, shows int) api.Span {
	return between(func(e end) int { return f.feet(reel, shows, e) })
}

// serves returns the greatest number of showings after which a reel has so many feet at one end, or -1.
func (f film) serves(reel, feet int, e end) int {
	for shows := range api.ReelShows + 1 {
		if f.feet(reel, shows, e) < feet {
			return shows - 1
		}
	}
	return api.ReelShows
}

// seen returns the least and the greatest number of showings that can leave a reel just so many feet, and whether there is one.
func (f film) seen(reel, feet int) (seen api.Span, some bool) {
	for shows := range api.ReelShows + 1 {
		worn := f.worn(reel, shows)
		if feet < worn.Low || feet > worn.High {
			continue
		}
		if !some {
			seen.Low = shows
		}
		seen.High, some = shows, true
	}
	return seen, some
}

func (f film) lasts(reels []int, shows int) api.Span {
	return between(func(e end) int {
		feet := make([]int, len(reels))
		for i, reel := range reels {
			feet[i] = f.feet(reel, shows, e)
		}
		return sum(feet...) * e.adds(span(f.Turn))
	})
}

// spools returns how many reels each spool has, or ErrNone if one reel can be too long for a spool.
func (f film) spools(order []int, shows int) ([]int, api.Errno) {
	var spools []int
	room := 0
	for i, reel := range order {
		feet := f.worn(reel, shows).High
		if feet > f.Spool {
			return nil, api.ErrNone
		}
		if i == 0 || feet > room {
			spools = append(spools, 0)
			room = f.Spool
		}
		spools[len(spools)-1]++
		room -= feet
	}
	return spools, api.OK
}

// changes returns when each spool but the last one is over: all reels up to its end were shown then.
func (f film) changes(order, spools []int, shows int) []api.Span {
	var changes []api.Span
	shown := 0
	for _, many := range spools[:len(spools)-1] {
		shown += many
		changes = append(changes, f.lasts(order[:shown:shown], shows))
	}
	return changes
}

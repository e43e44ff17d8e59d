package relay

import (
	"cmp"

	"bioscope/api"
)

// tenths is how many of them a second has.
const tenths = 10

// The tents.
const (
	first = iota
	second
)

// The ends of a span.
const (
	least = iota
	most
)

// span is a span that tells its ends.
type span api.Span

func (s span) least() int { return s.Low }

func (s span) most() int { return s.High }

// truth is a book of which one end of what can be is meant in each tent; the rides are at the end of the first one.
type truth struct {
	book
	ends [2]func(span) int
}

// truth returns what can be true at an end of all until the reels are there, and at one of what they last in the second tent.
func (k book) truth(there, then int) truth {
	ends := [...]func(span) int{least: span.least, most: span.most}
	return truth{k, [2]func(span) int{first: ends[there], second: ends[then]}}
}

func (t truth) showing(reel int) showing { return showing{reel, t.Shows} }

// length returns how long a reel lasts in a tent.
func (t truth) length(s showing, tent int) int { return t.ends[tent](span(t.lasts(s)[tent])) }

func (t truth) ride(seconds api.Span) int { return tenths * t.ends[first](span(seconds)) }

// before returns how long all reels before one last in a tent; behind the last reel these are all.
func (t truth) before(s showing, tent int) (all int) {
	for reel := range len(t.order) {
		now := t.showing(reel)
		if now == s {
			break
		}
		all += t.length(now, tent)
	}
	return all
}

// there returns at which time each reel is in the second tent.
func (t truth) there(plan []int) (there []int) {
	boy, next := 0, 0
	for _, trip := range plan {
		next += trip
		at := greatest(boy, t.before(t.showing(next), first)) + t.ride(t.Go)
		for range trip {
			there = append(there, at)
		}
		boy = at + t.ride(t.Back)
	}
	return there
}

// late returns how late the second tent must begin so that nobody waits.
func (t truth) late(plan []int) (late int) {
	for reel, at := range t.there(plan) {
		late = greatest(late, at-t.before(t.showing(reel), second))
	}
	return late
}

// over returns at which time the last reel is over in the second tent.
func (t truth) over(plan []int, start int) int {
	over := tenths * start
	for reel, at := range t.there(plan) {
		over = greatest(over, at) + t.length(t.showing(reel), second)
	}
	return over
}

// surely returns the least second in which the second tent can begin so that nobody waits even if all reels are there late, and last short there.
func (k book) surely(plan []int) int { return seconds(k.truth(most, least).late(plan)) }

// perhaps returns the least second in which the second tent can begin so that nobody waits if all reels are there soon, and last long there.
func (k book) perhaps(plan []int) int { return seconds(k.truth(least, most).late(plan)) }

// seconds returns the first second that is no sooner than a time.
func seconds(time int) int { return (time + tenths - 1) / tenths }

func greatest[N cmp.Ordered](n N, others ...N) N {
	for _, other := range others {
		n = max(n, other)
	}
	return n
}

package licence

import (
	"iter"
	"slices"

	"bioscope/api"
)

// cover tells of each of some days whether it is meant; the zero value means none.
type cover [api.LicenceWanted]bool

// many returns how many days are meant.
func (c cover) many() (n int) {
	for _, is := range c {
		if is {
			n++
		}
	}
	return n
}

// of returns those of some days that are meant, or those that are not.
func (c cover) of(days []int, meant bool) (l []int) {
	for i, day := range days {
		if c[i] == meant {
			l = append(l, day)
		}
	}
	return l
}

// isPaper reports whether a licence is one of the town.
func (t town) isPaper(p api.LicencePaper) bool {
	return p.Kind >= 0 && p.Kind < len(t.Kinds) && isDay(p.First)
}

// behind returns the first day that a licence does not cover any more.
func (t town) behind(p api.LicencePaper) int { return sum(p.First, t.Kinds[p.Kind].Days) }

// next returns the first day on which a licence can begin that follows another one.
func (t town) next(p api.LicencePaper) int { return sum(t.behind(p), t.Pause) }

// goTogether reports whether a licence goes together with each one of others.
func (t town) goTogether(p api.LicencePaper, others []api.LicencePaper) bool {
	for _, other := range others {
		if p.First < t.next(other) && other.First < t.next(p) {
			return false
		}
	}
	return true
}

func (t town) covers(p api.LicencePaper, day int) bool { return p.First <= day && day < t.behind(p) }

// isCovered reports whether some licence covers a day.
func (t town) isCovered(day int, papers []api.LicencePaper) bool {
	for _, p := range papers {
		if t.covers(p, day) {
			return true
		}
	}
	return false
}

// date is a day that is asked about.
type date int

func (d date) isIn(s api.Span) bool { return isWithin(int(d), s) }

func (t town) isBarred(day int) bool { return slices.ContainsFunc(t.Barred, date(day).isIn) }

// isOpen reports whether something may be shown on a day with some licences.
func (t town) isOpen(day int, papers []api.LicencePaper) bool {
	return t.isCovered(day, papers) && !t.isBarred(day)
}

// days produces those of a span.
func days(s api.Span) iter.Seq[int] {
	return func(yield func(int) bool) {
		for day := s.Low; day <= s.High; day++ {
			if !yield(day) {
				return
			}
		}
	}
}

// isPlan reports whether licences are a plan for a day.
func (t town) isPlan(today int, plan []api.LicencePaper) bool {
	next := 0
	for _, p := range plan {
		if !t.isPaper(p) || p.First < max(next, today+t.Kinds[p.Kind].Notice) || !t.goTogether(p, t.Held) {
			return false
		}
		next = t.next(p)
	}
	return len(plan) <= api.LicencePlan
}

// arePapers reports whether licences are some of the town, and no more than a plan has.
func (t town) arePapers(papers []api.LicencePaper) bool {
	for _, p := range papers {
		if !t.isPaper(p) {
			return false
		}
	}
	return len(papers) <= api.LicencePlan
}

// areWanted reports whether days can be wanted.
func areWanted(wanted []int) bool {
	next := 0
	for _, day := range wanted {
		if !isDay(day) || day < next {
			return false
		}
		next = day + 1
	}
	return len(wanted) <= api.LicenceWanted
}

// lacking tells on which days nothing may be shown with some licences and the held ones.
func (t town) lacking(papers []api.LicencePaper, wanted []int) (c cover) {
	held := len(t.Held)
	all := append(t.Held[:held:held], papers...)
	for i, day := range wanted {
		c[i] = !t.isOpen(day, all)
	}
	return c
}

// sum returns the sum of some numbers.
func sum[N ~int](numbers ...N) (all N) {
	for _, n := range numbers {
		all += n
	}
	return all
}

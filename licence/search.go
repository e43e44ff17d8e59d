package licence

import (
	"iter"
	"sort"

	"bioscope/api"
)

// question is for which days a plan is looked for, on which day it must be asked for, and which of two is the better one.
type question struct {
	today  int
	days   []int
	better func(one, other offer) bool
}

// offer is a plan, with what it costs, and which of the days of a question it covers; the zero value is none.
type offer struct {
	some bool
	plan []api.LicencePaper
	fee  int
	days cover
}

// step is the next one of the days, the first day on which a licence can begin behind the one before, and how many days are to be left out still.
type step struct{ day, next, leave int }

// ask returns a question about those of the wanted days for which a licence is needed: no held one covers them, and no one helps on barred days.
func (t town) ask(today int, wanted []int, better func(one, other offer) bool) question {
	q := question{today: today, better: better}
	for _, day := range t.lacking(nil, wanted).of(wanted, true) {
		if !t.isBarred(day) {
			q.days = append(q.days, day)
		}
	}
	return q
}

// covered tells which of the days of a question, from one on, a licence covers.
func (t town) covered(p api.LicencePaper, q question, from int) (c cover) {
	for i := from; i < len(q.days); i++ {
		c[i] = t.covers(p, q.days[i])
	}
	return c
}

// onward produces the licences that can follow and cover the next day, with all days that they cover.
func (t town) onward(q question, s step) iter.Seq2[api.LicencePaper, cover] {
	return func(yield func(api.LicencePaper, cover) bool) {
		day := q.days[s.day]
		for kind := range len(t.Kinds) {
			k := t.Kinds[kind]
			var before cover
		nextFirst:
			for first := range days(api.Span{Low: max(s.next, q.today+k.Notice, day-k.Days+1), High: day}) {
				p := api.LicencePaper{Kind: kind, First: first}
				if !t.goTogether(p, t.Held) {
					continue nextFirst
				}
				// One that begins later, and covers no other days, is never better: what follows it can follow the sooner one.
				covered := t.covered(p, q, s.day)
				if covered == before {
					continue nextFirst
				}
				before = covered
				if !yield(p, covered) {
					return
				}
			}
		}
	}
}

// with returns the offer that begins with a licence, and goes on with the rest.
func (t town) with(p api.LicencePaper, covered cover, rest offer) offer {
	for i, is := range rest.days {
		covered[i] = covered[i] || is
	}
	plan := append([]api.LicencePaper{p}, rest.plan...)
	return offer{true, plan, sum(t.Kinds[p.Kind].Fee, rest.fee), covered}
}

// finder returns what finds the best plan that covers all days of a question but so many.
// What follows a licence does not depend on those before it: each step is looked from only once.
func (t town) finder(q question) func(leave int) offer {
	known := map[step]offer{}
	var further func(s step) offer
	further = func(s step) (best offer) {
		if s.day == len(q.days) {
			return offer{some: s.leave == 0}
		}
		if o, is := known[s]; is {
			return o
		}
		if s.leave > 0 {
			best = further(step{s.day + 1, s.next, s.leave - 1})
		}
		for p, covered := range t.onward(q, s) {
			rest := further(step{s.day + covered.many(), t.next(p), s.leave})
			if !rest.some {
				continue
			}
			if o := t.with(p, covered, rest); !best.some || q.better(o, best) {
				best = o
			}
		}
		known[s] = best
		return best
	}
	return func(leave int) offer { return further(step{leave: leave}) }
}

// isLess reports whether a plan costs less than another one, or as much with fewer licences.
func isLess(one, other offer) bool {
	if one.fee != other.fee {
		return one.fee < other.fee
	}
	return len(one.plan) < len(other.plan)
}

// isBefore reports whether a plan costs less than another one for as many days, or as much, and its days come first.
func isBefore(one, other offer) bool {
	if one.fee != other.fee {
		return one.fee < other.fee
	}
	for i, is := range one.days {
		if is != other.days[i] {
			return is
		}
	}
	return false
}

// knowCheapest returns the best plan that covers all wanted days, if the town and what is asked are valid.
func knowCheapest(t api.LicenceTown, today int, wanted []int) (offer, api.Errno) {
	k, e := know(t)
	if e != api.OK {
		return offer{}, e
	}
	if !isDay(today) || !areWanted(wanted) {
		return offer{}, api.ErrLicenceAsk
	}
	return k.cheapest(today, wanted)
}

// cheapest returns the best plan that covers all wanted days.
func (t town) cheapest(today int, wanted []int) (offer, api.Errno) {
	best := t.finder(t.ask(today, wanted, isLess))(0)
	if !best.some || t.lacking(best.plan, wanted) != (cover{}) {
		return offer{}, api.ErrNone
	}
	return best, api.OK
}

// latest returns the last day for which there is a plan: one for a day is one for each sooner day, too.
func (t town) latest(wanted []int) (int, api.Errno) {
	many := sort.Search(api.MaxDay+1, func(today int) bool {
		_, e := t.cheapest(today, wanted)
		return e != api.OK
	})
	if many == 0 {
		return 0, api.ErrNone
	}
	return many - 1, api.OK
}

// most returns as many of the wanted days as can be covered for some money.
// A plan that is found with fewer days left out was too dear: one that is not covers none of those that are left out.
func (t town) most(today int, wanted []int, money int) []int {
	q := t.ask(today, wanted, isBefore)
	find := t.finder(q)
	for leave := range len(q.days) {
		if o := find(leave); o.some && o.fee <= money {
			return t.lacking(o.plan, wanted).of(wanted, false)
		}
	}
	return t.lacking(nil, wanted).of(wanted, false)
}

package tour_test

import (
	"cmp"
	"math/rand/v2"
	"slices"
	"testing"

	"bioscope/api"
	"bioscope/licence"
	"bioscope/tour"
)

// isShown tells if something is shown in a town on a day, if there is a stay.
func isShown(t api.TourTown, day int) bool {
	covered, barred := false, false
	for _, p := range t.Licence.Held {
		for i := range t.Licence.Kinds[p.Kind].Days {
			covered = covered || p.First+i == day
		}
	}
	for _, s := range t.Licence.Barred {
		for d := s.Low; d <= s.High; d++ {
			barred = barred || d == day
		}
	}
	return covered && !barred && isOfFair(t, day)
}

func isOfFair(t api.TourTown, day int) bool { return t.Fair.Low <= day && day <= t.Fair.High }

// truth tells what a day truly brings.
type truth func(take api.Span) int

func low(s api.Span) int { return s.Low }

func high(s api.Span) int { return s.High }

// anyTruth is one in which each day can bring any amount that it can bring.
func anyTruth(r *rand.Rand) truth {
	return func(s api.Span) int { return s.Low + r.IntN(s.High-s.Low+1) }
}

// travel goes on a tour, day by day, and tells how much money there is behind it, and how much there was at the least, from none on.
func (w truth) travel(b api.TourBook, l []api.TourStay) (money, lowest int) {
	from := b.From
	for _, s := range l {
		for range b.Roads[from][s.Town] {
			money -= b.Cost
		}
		lowest = min(lowest, money)
		for day := s.First; day <= s.Last; day++ {
			money -= b.Keep
			lowest = min(lowest, money)
			if isShown(b.Towns[s.Town], day) {
				money += w(b.Towns[s.Town].Take)
			}
		}
		from = s.Town
	}
	return money, lowest
}

// isTour tells if stays are a tour: on each day the cinema is in one town only, or on one road.
func isTour(b api.TourBook, l []api.TourStay) bool {
	at, free := b.From, b.Begin
	var seen []int
	for _, s := range l {
		if s.Town < 0 || s.Town >= len(b.Towns) || slices.Contains(seen, s.Town) || s.Last > api.MaxDay {
			return false
		}
		for range b.Roads[at][s.Town] {
			free++
		}
		if s.First < free || s.Last < s.First {
			return false
		}
		at, free, seen = s.Town, s.Last, append(seen, s.Town)
	}
	return true
}

// toursOf are all tours of a book until a day.
func toursOf(b api.TourBook, until int) (all [][]api.TourStay) {
	var put func(l []api.TourStay, at, free int)
	put = func(l []api.TourStay, at, free int) {
		all = append(all, l)
		for town := range b.Towns {
			if slices.ContainsFunc(l, func(s api.TourStay) bool { return s.Town == town }) {
				continue
			}
			for first := free + b.Roads[at][town]; first <= until; first++ {
				for last := first; last <= until; last++ {
					put(append(slices.Clone(l), stay(town, first, last)), town, last)
				}
			}
		}
	}
	put(nil, b.From, b.Begin)
	return all
}

// state is in which town there is a stay on a day, and in which towns there was one, as a set.
type state struct{ day, town, seen int }

// deal is what is worth the most, and how few stays that needs.
type deal struct{ worth, many int }

func isBetter(one, other deal) bool {
	return one.worth > other.worth || one.worth == other.worth && one.many < other.many
}

// dayByDay is the best deal of all tours: on each day of a stay it can end, go on, or be left for another town.
func dayByDay(b api.TourBook) deal {
	known, waits := map[state]deal{}, map[state]deal{}
	var on, beginFrom func(s state) deal
	onward := func(at, free, seen int) (best deal) {
		for town := range b.Towns {
			if seen>>town&1 == 1 {
				continue
			}
			d := beginFrom(state{free + b.Roads[at][town], town, seen | 1<<town})
			d.worth -= b.Cost * b.Roads[at][town]
			d.many++
			if d.many > 0 && isBetter(d, best) {
				best = d
			}
		}
		return best
	}
	// beginFrom is the best deal of a stay that begins on a day, or later; of none, so many stays that it is never one.
	beginFrom = func(s state) deal {
		if s.day > api.MaxDay {
			return deal{-1 << 30, 0}
		}
		if d, is := waits[s]; is {
			return d
		}
		best := on(s)
		if d := beginFrom(state{s.day + 1, s.town, s.seen}); isBetter(d, best) {
			best = d
		}
		waits[s] = best
		return best
	}
	on = func(s state) deal {
		if d, is := known[s]; is {
			return d
		}
		best := onward(s.town, s.day, s.seen)
		if s.day < api.MaxDay {
			if d := on(state{s.day + 1, s.town, s.seen}); isBetter(d, best) {
				best = d
			}
		}
		best.worth -= b.Keep
		if isShown(b.Towns[s.town], s.day) {
			best.worth += b.Towns[s.town].Take.Low
		}
		known[s] = best
		return best
	}
	return onward(b.From, b.Begin, 0)
}

// within is a span within these numbers.
func within(r *rand.Rand, low, high int) api.Span {
	one, other := low+r.IntN(high-low+1), low+r.IntN(high-low+1)
	return span(min(one, other), max(one, other))
}

// someRoads sets all roads, of at most so many days each.
func someRoads(r *rand.Rand, b *api.TourBook, most int) {
	b.Roads = nil
	for i := range b.Towns {
		b.Roads = append(b.Roads, nil)
		for j := range b.Towns {
			days := 0
			if i != j {
				days = 1 + r.IntN(most)
			}
			b.Roads[i] = append(b.Roads[i], days)
		}
	}
}

// someTown has a fair of at most so many days within others, and licences for most of them.
func someTown(r *rand.Rand, days api.Span, long, take int) (t api.TourTown) {
	t.Fair.Low = days.Low + r.IntN(days.High-days.Low+1)
	t.Fair.High = min(t.Fair.Low+r.IntN(long), days.High)
	t.Take = within(r, 0, take)
	x := api.LicenceTown{Pause: r.IntN(2) * r.IntN(3), Close: r.IntN(1440)}
	for range 1 + r.IntN(3) {
		x.Kinds = append(x.Kinds, api.LicenceKind{Days: 1 + r.IntN(long), Fee: r.IntN(30), Notice: r.IntN(2) * r.IntN(8)})
	}
	if low := t.Fair.Low - r.IntN(2); r.IntN(4) == 0 && low >= 0 {
		x.Barred = []api.Span{span(low, min(low+r.IntN(2), api.MaxDay))}
	}
	for i := range r.IntN(7) {
		y := x
		y.Held = append(slices.Clone(x.Held), api.LicencePaper{Kind: r.IntN(len(x.Kinds)), First: min(max(0, t.Fair.Low-1+r.IntN(2+i)), api.MaxDay)})
		if licence.Check(y) == api.OK {
			x = y
		}
	}
	t.Licence = x
	return t
}

// large is a book of any numbers.
func large(r *rand.Rand) (b api.TourBook) {
	b.Begin = 850 + r.IntN(150)
	if r.IntN(10) == 0 {
		b.Begin = r.IntN(60)
	}
	days := span(max(0, b.Begin-2), min(b.Begin+5+r.IntN(40), api.MaxDay))
	take := 1 + r.IntN(200)
	for range max(1+r.IntN(4), 1+r.IntN(4)) {
		b.Towns = append(b.Towns, someTown(r, days, 8, take))
	}
	someRoads(r, &b, 1+r.IntN(12))
	b.From, b.Cost, b.Keep = r.IntN(len(b.Towns)), r.IntN(1+r.IntN(1+take/4)), r.IntN(1+r.IntN(1+take/2))
	return b
}

// small is a book of few days and small numbers, for which many tours are worth as much, and the last day that is worth anything.
func small(r *rand.Rand) (b api.TourBook, until int) {
	b.Begin = r.IntN(30)
	if r.IntN(5) == 0 {
		b.Begin = api.MaxDay - 6 + r.IntN(3)
	}
	until = min(b.Begin+6, api.MaxDay)
	for range max(1+r.IntN(4), 1+r.IntN(4)) {
		b.Towns = append(b.Towns, someTown(r, span(b.Begin, until), 4, 8))
	}
	someRoads(r, &b, 1+r.IntN(3))
	b.From, b.Cost, b.Keep = r.IntN(len(b.Towns)), r.IntN(3), r.IntN(3)
	return b, until
}

// someTour is one of any stays, which wait and last for at most so many days each, or wait for the fair.
func someTour(r *rand.Rand, b api.TourBook, slack int) (l []api.TourStay) {
	at, free := b.From, b.Begin
	for _, town := range r.Perm(len(b.Towns))[:r.IntN(len(b.Towns)+1)] {
		first := free + b.Roads[at][town] + r.IntN(slack)
		if r.IntN(2) == 0 {
			first = max(first, b.Towns[town].Fair.Low)
		}
		last := first + r.IntN(slack)
		if last > api.MaxDay {
			return l
		}
		l, at, free = append(l, stay(town, first, last)), town, last
	}
	return l
}

// P7.1, P7.5 and P7.10: what is told of days, held against days that are looked at one by one.
func TestDaysOneByOne(t *testing.T) {
	r := rand.New(rand.NewPCG(73, 1))
	tours, others, open, shut := 0, 0, 0, 0
	for range 3000 {
		b := large(r)
		right(t, "Check", tour.Check(b))
		for town, x := range b.Towns {
			var want []int
			for day := range api.MaxDay + 1 {
				if isShown(x, day) {
					want = append(want, day)
				}
			}
			if l, e := tour.Shown(b, town); !slices.Equal(l, want) || e != api.OK {
				t.Fatalf("Shown of %v, %d: %v, %d, not %v", b, town, l, e, want)
			}
			open += len(want)
			shut += x.Fair.High - x.Fair.Low + 1 - len(want)
		}
		l := someTour(r, b, 1+r.IntN(9))
		if len(l) > 0 && r.IntN(2) == 0 {
			s := &l[r.IntN(len(l))]
			for _, n := range []*int{&s.Town, &s.First, &s.Last} {
				*n += r.IntN(3) - 1
			}
		}
		want := isTour(b, l)
		if is, e := tour.IsTour(b, l); is != want || e != api.OK {
			t.Fatalf("IsTour of %v, %v: %v, %d", b, l, is, e)
		}
		if !want {
			others++
			continue
		}
		tours++
		askDays(t, b, l)
	}
	if min(tours, others) < 500 || min(open, shut) < 5000 {
		t.Errorf("%d were tours and %d were none, on %d days something may be shown and on %d not only", tours, others, open, shut)
	}
}

// askDays asks where the cinema is, and when it can go on, and compares that with what is a tour.
func askDays(t *testing.T, b api.TourBook, l []api.TourStay) {
	t.Helper()
	for day := max(0, b.Begin-2); day <= min(b.Begin+120, api.MaxDay); day++ {
		want := -1
		for _, s := range l {
			for d := s.First; d <= s.Last; d++ {
				if d == day {
					want = s.Town
				}
			}
		}
		if n, e := tour.Where(b, l, day); n != want || e != api.OK {
			t.Fatalf("Where of %v, %v on %d: %d, %d", b, l, day, n, e)
		}
	}
	next, e := tour.Next(b, l)
	if len(next) != len(b.Towns) || e != api.OK {
		t.Fatalf("Next of %v, %v: %v, %d", b, l, next, e)
	}
	for town, day := range next {
		if day == -1 {
			if !slices.ContainsFunc(l, func(s api.TourStay) bool { return s.Town == town }) {
				t.Fatalf("Next of %v, %v: %v, though it is not in %d", b, l, next, town)
			}
			continue
		}
		with := func(day int) []api.TourStay { return append(slices.Clone(l), stay(town, day, day)) }
		if day <= api.MaxDay && !isTour(b, with(day)) || day <= api.MaxDay+1 && isTour(b, with(day-1)) {
			t.Fatalf("Next of %v, %v: %v, and not in %d", b, l, next, town)
		}
	}
}

// P7.2, P7.4 and P7.8: whatever the days bring, a tour is worth what lies between what is told, and the money that is told is enough; both ends are so in something that can be true, and with one less there can be too little.
func TestWhateverTheDaysBring(t *testing.T) {
	r := rand.New(rand.NewPCG(74, 1))
	inside, poor := 0, 0
	for range 3000 {
		b := large(r)
		l := someTour(r, b, 1+r.IntN(9))
		worth, e := tour.Worth(b, l)
		right(t, "Worth", e)
		purse, e := tour.Purse(b, l)
		right(t, "Purse", e)
		least, lowest := truth(low).travel(b, l)
		most, _ := truth(high).travel(b, l)
		if worth != span(least, most) {
			t.Fatalf("Worth of %v, %v: %v, not from %d to %d", b, l, worth, least, most)
		}
		if purse != -lowest {
			t.Fatalf("Purse of %v, %v: %d, not %d", b, l, purse, -lowest)
		}
		for range 4 {
			money, lowest := anyTruth(r).travel(b, l)
			if money < worth.Low || money > worth.High || purse+lowest < 0 {
				t.Fatalf("Worth and Purse of %v, %v: %v, %d, though it is worth %d, and needs %d", b, l, worth, purse, money, -lowest)
			}
			if worth.Low < money && money < worth.High {
				inside++
			}
		}
		if purse > 0 {
			poor++
		}
	}
	if min(inside, poor) < 1000 {
		t.Errorf("%d tours were worth what lies between the ends, and %d needed money only", inside, poor)
	}
}

// askBest asks for the best tour, and compares it with what is true.
func askBest(t *testing.T, b api.TourBook, want deal) {
	t.Helper()
	if n, e := tour.Gain(b); n != want.worth || e != api.OK {
		t.Fatalf("Gain of %v: %d, %d, not %d", b, n, e, want.worth)
	}
	l, e := tour.Best(b)
	if !isTour(b, l) || len(l) != want.many || e != api.OK {
		t.Fatalf("Best of %v: %v, %d, not of %d stays", b, l, e, want.many)
	}
	if worth, _ := truth(low).travel(b, l); worth != want.worth {
		t.Fatalf("Best of %v: %v, which is worth %d, not %d", b, l, worth, want.worth)
	}
}

// P7.3 and P7.9: no tour surely brings more than the one that is told, and none that surely brings as much has fewer stays. Tours that go on behind the last fair bring no more.
func TestBestOfAll(t *testing.T) {
	r := rand.New(rand.NewPCG(75, 1))
	var seen [5]int
	for range 300 {
		b, until := small(r)
		right(t, "Check", tour.Check(b))
		all := toursOf(b, until)
		deals := make([]deal, len(all))
		for i, l := range all {
			worth, _ := truth(low).travel(b, l)
			deals[i] = deal{worth, len(l)}
		}
		want := slices.MinFunc(deals, func(one, other deal) int {
			return cmp.Or(other.worth-one.worth, one.many-other.many)
		})
		askBest(t, b, want)
		seen[want.many]++
	}
	if slices.Min(seen[:3]) < 20 || seen[3] < 3 {
		t.Errorf("the best tours had so many stays: %v", seen)
	}
}

// P7.3 and P7.9: books of any numbers, day by day; the best tour never brings less than staying at home.
func TestBestDayByDay(t *testing.T) {
	r := rand.New(rand.NewPCG(76, 1))
	var seen [5]int
	through := 0
	for range 800 {
		b := large(r)
		want := dayByDay(b)
		askBest(t, b, want)
		if want.worth < 0 {
			t.Fatalf("the best deal of %v is worth %d", b, want.worth)
		}
		seen[want.many]++
		l, _ := tour.Best(b)
		for _, s := range l {
			if worth, _ := truth(high).travel(with(b, from(s.Town), begin(0), keep(0)), []api.TourStay{s}); worth == 0 {
				through++
			}
		}
	}
	if slices.Min(seen[:]) < 5 || through < 3 {
		t.Errorf("the best tours had so many stays: %v, and passed through %d towns only", seen, through)
	}
}

// feeOf is what the cheapest licences for all days of a stay that are of the fair cost, which truly let something be shown on all of these days.
func feeOf(t *testing.T, x api.TourTown, s api.TourStay, today int) (int, bool) {
	t.Helper()
	var days []int
	for day := s.First; day <= s.Last; day++ {
		if isOfFair(x, day) {
			days = append(days, day)
		}
	}
	plan, e := licence.Cheapest(x.Licence, today, days)
	if e != api.OK {
		return 0, false
	}
	fee := 0
	for _, p := range plan {
		fee += x.Licence.Kinds[p.Kind].Fee
	}
	x.Licence.Held = slices.Concat(x.Licence.Held, plan)
	for _, day := range days {
		if !isShown(x, day) {
			t.Fatalf("with %v nothing is shown in %v on %d", plan, x, day)
		}
	}
	return fee, true
}

// P7.6 and P7.10: what the licences cost that are asked for all towns of a tour; with them all days of the fairs are days on which something may be shown.
func TestWithTheLicences(t *testing.T) {
	r := rand.New(rand.NewPCG(77, 1))
	none, free, dear, several := 0, 0, 0, 0
	for range 12000 {
		b := large(r)
		for i := range b.Towns {
			if x := &b.Towns[i].Licence; r.IntN(3) > 0 {
				x.Barred, x.Held = nil, x.Held[:r.IntN(len(x.Held)+1)]
			}
		}
		l := someTour(r, b, 1+r.IntN(12))
		today := max(0, b.Begin-10+r.IntN(40)*r.IntN(2))
		if today > api.MaxDay {
			continue
		}
		all, paid, is := 0, 0, true
		for _, s := range l {
			fee, some := feeOf(t, b.Towns[s.Town], s, today)
			all, is = all+fee, is && some
			if fee > 0 {
				paid++
			}
		}
		n, e := tour.Papers(b, l, today)
		if !is {
			none++
			if n != 0 || e != api.ErrNone {
				t.Fatalf("Papers of %v, %v on %d: %d, %d, though there are none", b, l, today, n, e)
			}
			continue
		}
		if n != all || e != api.OK {
			t.Fatalf("Papers of %v, %v on %d: %d, %d, not %d", b, l, today, n, e, all)
		}
		switch {
		case paid == 0:
			free++
		case paid == 1:
			dear++
		default:
			several++
		}
	}
	if min(none, free, dear, several) < 100 {
		t.Errorf("there were none %d times, none were needed %d times, one town needed some %d times, and several %d times only", none, free, dear, several)
	}
}

// easier are the ways in which nothing brings less.
func easier(r *rand.Rand) map[string]change {
	lower := func(n *int, least int) { *n -= r.IntN(*n - least + 1) }
	return map[string]change{
		"a shorter road": func(b *api.TourBook) {
			from, to := r.IntN(len(b.Towns)), r.IntN(len(b.Towns))
			if from != to {
				lower(&b.Roads[from][to], 1)
			}
		},
		"a lower Cost": func(b *api.TourBook) { lower(&b.Cost, 0) },
		"a lower Keep": func(b *api.TourBook) { lower(&b.Keep, 0) },
		"greater takings": func(b *api.TourBook) {
			s := &b.Towns[r.IntN(len(b.Towns))].Take
			s.High += r.IntN(100)
			s.Low += r.IntN(s.High - s.Low + 1)
		},
		"a town more": func(b *api.TourBook) {
			if len(b.Towns) == api.TourTowns {
				return
			}
			b.Towns = append(b.Towns, someTown(r, span(b.Begin, min(b.Begin+40, api.MaxDay)), 8, 200))
			old := b.Roads
			someRoads(r, b, 5)
			for i := range old {
				copy(b.Roads[i], old[i])
			}
		},
	}
}

// P7.11: with a shorter road, a lower Cost or Keep, greater takings, or a town more nothing surely brings less.
func TestEasier(t *testing.T) {
	r := rand.New(rand.NewPCG(78, 1))
	gained, richer, spared := map[string]int{}, map[string]int{}, map[string]int{}
	for range 2500 {
		b := large(r)
		l := someTour(r, b, 4)
		gain, e := tour.Gain(b)
		right(t, "Gain", e)
		worth, e := tour.Worth(b, l)
		right(t, "Worth", e)
		purse, e := tour.Purse(b, l)
		right(t, "Purse", e)
		for name, c := range easier(r) {
			x := with(b, c)
			right(t, "Check with "+name, tour.Check(x))
			gain2, e := tour.Gain(x)
			right(t, "Gain", e)
			worth2, e := tour.Worth(x, l)
			right(t, "Worth", e)
			purse2, e := tour.Purse(x, l)
			right(t, "Purse", e)
			if gain2 < gain || worth2.Low < worth.Low || worth2.High < worth.High || purse2 > purse {
				t.Fatalf("with %s, Gain, Worth and Purse of %v, %v: %d, %v, %d, and %d, %v, %d before", name, x, l, gain2, worth2, purse2, gain, worth, purse)
			}
			if gain2 > gain {
				gained[name]++
			}
			if worth2 != worth {
				richer[name]++
			}
			if purse2 < purse {
				spared[name]++
			}
		}
	}
	for name := range easier(r) {
		if gained[name] < 50 || name != "a town more" && min(richer[name], spared[name]) < 50 {
			t.Errorf("with %s more was gained %d times, a tour was worth more %d times, and needed less %d times only", name, gained[name], richer[name], spared[name])
		}
	}
}

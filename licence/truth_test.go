package licence_test

import (
	"cmp"
	"math/rand/v2"
	"slices"
	"testing"

	"bioscope/api"
	"bioscope/licence"
)

// calendar counts of each day by how many licences it is covered; it goes on behind the last day of a season.
type calendar [1032]int

// calendarOf is that of some licences, day by day.
func calendarOf(t api.LicenceTown, l []api.LicencePaper) (c calendar) {
	for _, p := range l {
		for i := range t.Kinds[p.Kind].Days {
			c[p.First+i]++
		}
	}
	return c
}

// goTogether tells if so many days that are not covered lie between each two licences, and none is covered twice.
func goTogether(t api.LicenceTown, l []api.LicencePaper) bool {
	c := calendarOf(t, l)
	l = slices.Clone(l)
	slices.SortFunc(l, func(one, other api.LicencePaper) int { return one.First - other.First })
	for i, p := range l {
		bare := 0
		for day := p.First; i+1 < len(l) && day < l[i+1].First; day++ {
			if c[day] == 0 {
				bare++
			}
		}
		if i+1 < len(l) && bare < t.Pause {
			return false
		}
	}
	return slices.Max(c[:]) <= 1
}

// isBarred tells if a day is in a span that is barred.
func isBarred(t api.LicenceTown, day int) bool {
	for _, s := range t.Barred {
		for d := s.Low; d <= s.High; d++ {
			if d == day {
				return true
			}
		}
	}
	return false
}

// shownOn tells on which of some days something may be shown with some licences and the held ones.
func shownOn(t api.LicenceTown, l []api.LicencePaper, days []int) (shown []int) {
	c := calendarOf(t, slices.Concat(l, t.Held))
	for _, day := range days {
		if c[day] > 0 && !isBarred(t, day) {
			shown = append(shown, day)
		}
	}
	return shown
}

// without are those of some days that are not among others.
func without(days, others []int) (l []int) {
	for _, day := range days {
		if !slices.Contains(others, day) {
			l = append(l, day)
		}
	}
	return l
}

// costOf is what a plan costs.
func costOf(t api.LicenceTown, l []api.LicencePaper) (n int) {
	for _, p := range l {
		n += t.Kinds[p.Kind].Fee
	}
	return n
}

// latestFor is the last day on which all licences of a plan can be asked for; below 0 if there is none.
func latestFor(t api.LicenceTown, l []api.LicencePaper) int {
	last := api.MaxDay
	for _, p := range l {
		last = min(last, p.First-t.Kinds[p.Kind].Notice)
	}
	return last
}

// isPlan tells if licences of the town are a plan.
func isPlan(t api.LicenceTown, today int, l []api.LicencePaper) bool {
	inOrder := slices.IsSortedFunc(l, func(one, other api.LicencePaper) int { return one.First - other.First })
	return len(l) <= 8 && inOrder && latestFor(t, l) >= today && goTogether(t, slices.Concat(l, t.Held))
}

// isRightPlan ends the test unless a plan is one that covers all days, and costs so much.
func isRightPlan(t *testing.T, x api.LicenceTown, today int, wanted []int, l []api.LicencePaper, cost int) {
	t.Helper()
	if !isPlan(x, today, l) || !slices.Equal(shownOn(x, l, wanted), wanted) || costOf(x, l) != cost {
		t.Fatalf("Cheapest of %v on %d for %v at %d: %v", x, today, wanted, cost, l)
	}
	is, e := licence.IsPlan(x, today, l)
	rest, f := licence.Lacking(x, l, wanted)
	if !is || e != api.OK || len(rest) > 0 || f != api.OK {
		t.Fatalf("IsPlan and Lacking of %v on %d with %v for %v: %v, %d, %v, %d", x, today, l, wanted, is, e, rest, f)
	}
}

// deal is a plan of all that there are, and what is true of it.
type deal struct {
	many, cost, latest int
	shown              []int
}

// dealsOf are all plans of licences that begin in a window, whenever they are asked for. No other licence is needed to cover days that lie as far behind its beginning as the longest licence lasts.
func dealsOf(t api.LicenceTown, window api.Span) (all []deal) {
	var days []int
	for day := window.Low; day <= window.High; day++ {
		days = append(days, day)
	}
	var begin func(l []api.LicencePaper, from int)
	begin = func(l []api.LicencePaper, from int) {
		all = append(all, deal{len(l), costOf(t, l), latestFor(t, l), shownOn(t, l, days)})
		for first := from; first <= window.High && len(l) < 8; first++ {
			for k := range t.Kinds {
				next := append(slices.Clone(l), api.LicencePaper{Kind: k, First: first})
				if goTogether(t, slices.Concat(next, t.Held)) {
					begin(next, first+1)
				}
			}
		}
	}
	begin(nil, window.Low)
	return all
}

// isAmong tells if all of some days are among others.
func isAmong(days, others []int) bool { return len(without(days, others)) == 0 }

// best is the fee and the number of licences of the best of all plans for a day that cover days.
func best(all []deal, today int, wanted []int) (cost, many int, is bool) {
	for _, d := range all {
		if d.latest < today || !isAmong(wanted, d.shown) {
			continue
		}
		if !is || d.cost < cost || d.cost == cost && d.many < many {
			cost, many, is = d.cost, d.many, true
		}
	}
	return cost, many, is
}

// listsOf are all lists of some days, in their order.
func listsOf(wanted []int) (all [][]int) {
	for set := range 1 << len(wanted) {
		var l []int
		for i, day := range wanted {
			if set>>i&1 == 1 {
				l = append(l, day)
			}
		}
		all = append(all, l)
	}
	return all
}

// mostOf is the best list of days of which fee tells what the cheapest plan costs.
func mostOf(wanted []int, money int, fee func([]int) (int, bool)) (most []int) {
	least, some := 0, false
	for _, l := range listsOf(wanted) {
		cost, is := fee(l)
		if !is || cost > money || len(l) < len(most) {
			continue
		}
		if !some || len(l) > len(most) || cost < least || cost == least && slices.Compare(l, most) < 0 {
			most, least, some = l, cost, true
		}
	}
	return most
}

// within is a span in another one.
func within(r *rand.Rand, low, high int) api.Span {
	a, b := low+r.IntN(high-low+1), low+r.IntN(high-low+1)
	return span(min(a, b), max(a, b))
}

// someWanted are at most 8 days of some.
func someWanted(r *rand.Rand, low, high int) (l []int) {
	for range r.IntN(9) {
		l = append(l, low+r.IntN(high-low+1))
	}
	slices.Sort(l)
	return slices.Compact(l)
}

// someHeld adds at most so many licences that go together.
func someHeld(r *rand.Rand, t *api.LicenceTown, most int, days api.Span) {
	for range r.IntN(most + 1) {
		p := api.LicencePaper{Kind: r.IntN(len(t.Kinds)), First: days.Low + r.IntN(days.High-days.Low+1)}
		if l := append(slices.Clone(t.Held), p); goTogether(*t, l) {
			t.Held = l
		}
	}
}

// someBarred adds at most so many spans of a few days.
func someBarred(r *rand.Rand, t *api.LicenceTown, most int, days api.Span) {
	low := days.Low
	for range r.IntN(most + 1) {
		low += r.IntN(1 + (days.High-days.Low)/most)
		high := min(low+r.IntN(3), api.MaxDay)
		if low > high {
			return
		}
		t.Barred = append(t.Barred, span(low, high))
		low = high + 1
	}
}

// lead is how many days before those that are wanted licences of a small town can begin.
const lead = 3

// small is a town of which all plans can be tried, and the days on which licences begin there: those behind the lead can be wanted.
func small(r *rand.Rand) (t api.LicenceTown, window api.Span) {
	low := r.IntN(40)
	if r.IntN(5) == 0 {
		low = api.MaxDay - 7 - r.IntN(3)
	}
	window = span(low, min(low+8, api.MaxDay))
	for range 1 + r.IntN(3) {
		t.Kinds = append(t.Kinds, kind(1+r.IntN(lead+1), r.IntN(7), r.IntN(5)*r.IntN(2)))
	}
	t.Pause = r.IntN(3)
	t.Close = r.IntN(1440)
	t.Forbidden = r.IntN(65536)
	someHeld(r, &t, 2, window)
	someBarred(r, &t, 2, window)
	return t, window
}

// large is a town of any numbers, with what it holds and bars between the days 90 and 190.
func large(r *rand.Rand) (t api.LicenceTown) {
	long, dear := 1+r.IntN(30), r.IntN(1001)
	for range 1 + r.IntN(4) {
		days := 1 + r.IntN(long)
		t.Kinds = append(t.Kinds, kind(days, min(1000, days*dear/30+r.IntN(1+dear/10)), r.IntN(31)*r.IntN(2)))
	}
	t.Pause = r.IntN(1 + r.IntN(21))
	t.Close, t.Forbidden = r.IntN(1440), r.IntN(65536)
	someHeld(r, &t, 4, span(90, 190))
	if r.IntN(2) == 0 {
		someBarred(r, &t, 4, span(90, 110))
	}
	return t
}

// somePlan is a plan of a town for a day.
func somePlan(r *rand.Rand, t api.LicenceTown, today int) (l []api.LicencePaper) {
	for range r.IntN(12) {
		p := api.LicencePaper{Kind: r.IntN(len(t.Kinds)), First: min(999, today+r.IntN(90))}
		next := append(slices.Clone(l), p)
		slices.SortFunc(next, func(one, other api.LicencePaper) int { return cmp.Compare(one.First, other.First) })
		if isPlan(t, today, next) {
			l = next
		}
	}
	return l
}

// P5.2 and P5.3: what is told of days and of licences, held against days that are counted one by one.
func TestDaysOneByOne(t *testing.T) {
	r := rand.New(rand.NewPCG(54, 1))
	plans, others := 0, 0
	for range 4000 {
		x := large(r)
		asked := within(r, 60, 220)
		var all []int
		for day := asked.Low; day <= asked.High; day++ {
			all = append(all, day)
		}
		if l, e := licence.Days(x, asked); !slices.Equal(l, shownOn(x, nil, all)) || e != api.OK {
			t.Fatalf("Days of %v in %v: %v, %d", x, asked, l, e)
		}
		today := 60 + r.IntN(60)
		l := somePlan(r, x, today)
		if len(l) > 0 && r.IntN(2) == 0 {
			p := &l[r.IntN(len(l))]
			p.First = max(0, p.First+r.IntN(41)-20)
		}
		if len(l) > 1 && r.IntN(20) == 0 {
			slices.Reverse(l)
		}
		want := isPlan(x, today, l)
		if is, e := licence.IsPlan(x, today, l); is != want || e != api.OK {
			t.Fatalf("IsPlan of %v on %d: %v: %v, %d", x, today, l, is, e)
		}
		if want {
			plans++
		} else {
			others++
		}
		wanted := someWanted(r, 90, 200)
		if rest, e := licence.Lacking(x, l, wanted); !slices.Equal(rest, without(wanted, shownOn(x, l, wanted))) || e != api.OK {
			t.Fatalf("Lacking of %v with %v for %v: %v, %d", x, l, wanted, rest, e)
		}
	}
	if min(plans, others) < 500 {
		t.Errorf("%d were plans, and %d were none only", plans, others)
	}
}

// P5.4 to P5.6 (and P5.10, P5.11): the best of all plans that there are.
func TestPlansOfAll(t *testing.T) {
	r := rand.New(rand.NewPCG(55, 1))
	var none, some, fewer, dearer int
	for range 500 {
		x, window := small(r)
		right(t, "Check", licence.Check(x))
		all := dealsOf(x, window)
		for range 8 {
			wanted := someWanted(r, window.Low+lead, window.High)
			today := max(0, window.Low-4+r.IntN(8))
			cost, many, is := best(all, today, wanted)
			askCheapest(t, x, today, wanted, cost, many, is)
			askLatest(t, x, wanted, all)
			money := r.IntN(12)
			want := mostOf(wanted, money, func(l []int) (int, bool) {
				cost, _, is := best(all, today, l)
				return cost, is
			})
			if l, e := licence.Most(x, today, wanted, money); !slices.Equal(l, want) || e != api.OK {
				t.Fatalf("Most of %v on %d for %v and %d: %v, %d, not %v", x, today, wanted, money, l, e, want)
			}
			switch {
			case !is:
				none++
			case many > 0:
				some++
			}
			if len(want) > 0 && len(want) < len(wanted) {
				fewer++
			}
			if is && cost > money {
				dearer++
			}
		}
	}
	if min(none, some, fewer, dearer) < 250 {
		t.Errorf("for %d there is no plan, %d need licences, of %d only some days can be covered, and %d are too dear only", none, some, fewer, dearer)
	}
}

// askCheapest asks for the cheapest plan, and compares it with what is true.
func askCheapest(t *testing.T, x api.LicenceTown, today int, wanted []int, cost, many int, is bool) {
	t.Helper()
	l, e := licence.Cheapest(x, today, wanted)
	n, f := licence.Fee(x, today, wanted)
	if !is {
		if len(l) > 0 || n != 0 || e != api.ErrNone || f != api.ErrNone {
			t.Fatalf("Cheapest and Fee of %v on %d for %v: %v, %d, %d, %d, though there is none", x, today, wanted, l, e, n, f)
		}
		return
	}
	if len(l) != many || n != cost || e != api.OK || f != api.OK {
		t.Fatalf("Cheapest and Fee of %v on %d for %v: %v, %d, %d, %d, not %d by %d", x, today, wanted, l, e, n, f, cost, many)
	}
	isRightPlan(t, x, today, wanted, l, n)
}

// askLatest asks until when there is a plan, and compares it with what is true.
func askLatest(t *testing.T, x api.LicenceTown, wanted []int, all []deal) {
	t.Helper()
	last, want := -1, api.ErrNone
	for _, d := range all {
		if isAmong(wanted, d.shown) {
			last = max(last, d.latest)
		}
	}
	if last >= 0 {
		want = api.OK
	}
	if n, e := licence.Latest(x, wanted); n != max(last, 0) || e != want {
		t.Fatalf("Latest of %v for %v: %d, %d, not %d", x, wanted, n, e, last)
	}
}

// dayByDay is the fee and the number of licences of the best plan for a day, from the last day of the season back to the first one: on each one a licence begins, or the day is left as it is.
func dayByDay(t api.LicenceTown, today int, wanted []int) (cost, many int, is bool) {
	type purse struct {
		cost, many int
		is         bool
	}
	c := calendarOf(t, t.Held)
	var needs [len(c)]bool
	for _, day := range wanted {
		if isBarred(t, day) {
			return 0, 0, false
		}
		needs[day] = c[day] == 0
	}
	var from [len(c) + 21]purse
	for i := api.MaxDay + 1; i < len(from); i++ {
		from[i].is = true
	}
	for day := api.MaxDay; day >= 0; day-- {
		now := purse{}
		if !needs[day] {
			now = from[day+1]
		}
		for _, k := range t.Kinds {
			behind := day + k.Days + t.Pause
			if day < today+k.Notice || slices.Contains(needs[min(day+k.Days, len(c)):min(behind, len(c))], true) || !goesWithHeld(t, &c, day, k) {
				continue
			}
			rest := from[behind]
			if one := (purse{rest.cost + k.Fee, rest.many + 1, rest.is}); one.is && (!now.is || one.cost < now.cost || one.cost == now.cost && one.many < now.many) {
				now = one
			}
		}
		from[day] = now
	}
	return from[0].cost, from[0].many, from[0].is
}

// goesWithHeld tells if a licence of a kind covers no day that is covered, or lies in a pause.
func goesWithHeld(t api.LicenceTown, c *calendar, first int, k api.LicenceKind) bool {
	low, high := max(0, first-t.Pause), min(len(c), first+k.Days+t.Pause)
	return slices.Max(c[low:high]) == 0
}

// P5.4 to P5.6 (and P5.10, P5.11): towns of any numbers, day by day.
func TestPlansDayByDay(t *testing.T) {
	r := rand.New(rand.NewPCG(56, 1))
	none, some, last := 0, 0, 0
	for i := range 1200 {
		x := large(r)
		right(t, "Check", licence.Check(x))
		low := 95 + r.IntN(60)
		wanted := someWanted(r, low, low+8+r.IntN(90))
		today := r.IntN(130)
		cost, many, is := dayByDay(x, today, wanted)
		askCheapest(t, x, today, wanted, cost, many, is)
		if is {
			some++
		} else {
			none++
		}
		n, e := licence.Latest(x, wanted)
		if _, _, is := dayByDay(x, n, wanted); is != (e == api.OK) {
			t.Fatalf("Latest of %v for %v: %d, %d, though there is a plan: %v", x, wanted, n, e, is)
		}
		if _, _, is := dayByDay(x, n+1, wanted); is && n < api.MaxDay {
			t.Fatalf("Latest of %v for %v: %d, though there is a plan for the next day", x, wanted, n)
		}
		if e == api.OK && n < api.MaxDay {
			last++
		}
		if i%12 > 0 {
			continue
		}
		money := r.IntN(1 + r.IntN(8001))
		want := mostOf(wanted, money, func(l []int) (int, bool) {
			cost, _, is := dayByDay(x, today, l)
			return cost, is
		})
		if l, e := licence.Most(x, today, wanted, money); !slices.Equal(l, want) || e != api.OK {
			t.Fatalf("Most of %v on %d for %v and %d: %v, %d, not %v", x, today, wanted, money, l, e, want)
		}
	}
	if min(none, some, last) < 250 {
		t.Errorf("for %d there is no plan, for %d there is one, and for %d not always only", none, some, last)
	}
}

// P5.9: a film that may be shown is not forbidden, a licence covers its day, which is not barred, and it is over in time; with any of these it may not.
func TestWhereItIsForbidden(t *testing.T) {
	r := rand.New(rand.NewPCG(57, 1))
	seen := map[int]int{}
	for range 15000 {
		x := large(r)
		x.Barred = nil
		someBarred(r, &x, 4, span(90, 190))
		day, film, minute := 90+r.IntN(110), r.IntN(16), r.IntN(1440)
		wrong := []bool{calendarOf(x, x.Held)[day] == 0, isBarred(x, day), slices.Contains(filmsOf(x), film), minute > x.Close}
		n, e := licence.Why(x, day, film, minute)
		if n != slices.Index(wrong, true)+1 || e != api.OK {
			t.Fatalf("Why of %v on %d, %d, %d: %d, %d", x, day, film, minute, n, e)
		}
		seen[n]++
		open, e := licence.Days(x, span(day, day))
		if (len(open) == 1) == (n == api.LicenceDay || n == api.LicenceBarred) || e != api.OK {
			t.Fatalf("Days of %v on %d: %v, %d, though Why is %d", x, day, open, e, n)
		}
	}
	for n := api.LicenceFine; n <= api.LicenceHour; n++ {
		if seen[n] < 50 {
			t.Errorf("Why was %d only %d times", n, seen[n])
		}
	}
}

// filmsOf are the films that are forbidden.
func filmsOf(t api.LicenceTown) (l []int) {
	for film, rest := 0, t.Forbidden; rest > 0; film, rest = film+1, rest/2 {
		if rest%2 == 1 {
			l = append(l, film)
		}
	}
	return l
}

// P5.7 and P5.9: whatever an evening truly lasts, one that surely is over in time is; one that perhaps is can be, and can be late.
func TestOverInTime(t *testing.T) {
	r := rand.New(rand.NewPCG(58, 1))
	var seen [3]int
	for range 3000 {
		x := example(closes(r.IntN(1440)), held(0, 50), barred())
		begin, lasts := r.IntN(1440), within(r, 0, r.IntN(1440))
		n, e := licence.Over(x, begin, lasts)
		right(t, "Over", e)
		inTime, late := 0, 0
		for minutes := lasts.Low; minutes <= lasts.High; minutes++ {
			over := begin + minutes
			isFine := over <= x.Close
			if isFine {
				inTime++
			} else {
				late++
			}
			if over > api.LicenceMinute {
				continue
			}
			if why, e := licence.Why(x, 50, 0, over); (why == api.LicenceFine) != isFine || e != api.OK {
				t.Fatalf("Why of %v at %d: %d, %d", x, over, why, e)
			}
		}
		want := 1
		if late == 0 {
			want = 2
		} else if inTime == 0 {
			want = 0
		}
		if n != want {
			t.Fatalf("Over of an evening from %d by %d that lasts %v: %d", begin, x.Close, lasts, n)
		}
		seen[n]++
	}
	if slices.Min(seen[:]) < 200 {
		t.Errorf("Over had these results only: %v", seen)
	}
}

// P5.10: no other plan that covers all days costs less, or as much with fewer licences.
func TestNoneIsCheaper(t *testing.T) {
	r := rand.New(rand.NewPCG(59, 1))
	tried, none := 0, 0
	for range 1500 {
		x := large(r)
		today := 60 + r.IntN(50)
		other := somePlan(r, x, today)
		if len(other) == 0 {
			continue
		}
		var days []int
		for day := range 400 {
			days = append(days, day)
		}
		wanted := shownOn(x, other, days)
		for len(wanted) > 8 {
			i := r.IntN(len(wanted))
			wanted = slices.Delete(wanted, i, i+1)
		}
		tried++
		l, e := licence.Cheapest(x, today, wanted)
		right(t, "Cheapest", e)
		cost := costOf(x, l)
		isRightPlan(t, x, today, wanted, l, cost)
		if old := costOf(x, other); cost > old || cost == old && len(l) > len(other) {
			t.Fatalf("Cheapest of %v on %d for %v: %v, not %v", x, today, wanted, l, other)
		}
		for i := range l {
			if lacks, e := licence.Lacking(x, slices.Delete(slices.Clone(l), i, i+1), wanted); len(lacks) == 0 || e != api.OK {
				none++
			}
		}
	}
	if tried < 500 || none > 0 {
		t.Errorf("%d plans were tried only, and %d licences are not needed", tried, none)
	}
}

// P5.11: for the day that is told there is a plan, for any later one there is none, for any sooner one there is.
func TestAskedForInTime(t *testing.T) {
	r := rand.New(rand.NewPCG(60, 1))
	told := 0
	for range 60 {
		x := large(r)
		wanted := someWanted(r, 95, 200)
		last, e := licence.Latest(x, wanted)
		if e == api.ErrNone {
			last = -1
		} else {
			told++
		}
		for today := range api.MaxDay + 1 {
			_, e := licence.Cheapest(x, today, wanted)
			if (e == api.OK) != (today <= last) {
				t.Fatalf("Latest of %v for %v: %d, and Cheapest on %d: %d", x, wanted, last, today, e)
			}
		}
	}
	if told < 20 {
		t.Errorf("for %d towns there was a plan only", told)
	}
}

// easier are the ways in which a town can cost no more.
func easier(r *rand.Rand) map[string]change {
	lower := func(n *int) { *n -= r.IntN(*n + 1) }
	return map[string]change{
		"a shorter notice": func(t *api.LicenceTown) { lower(&t.Kinds[r.IntN(len(t.Kinds))].Notice) },
		"a shorter pause":  func(t *api.LicenceTown) { lower(&t.Pause) },
		"a lower fee":      func(t *api.LicenceTown) { lower(&t.Kinds[r.IntN(len(t.Kinds))].Fee) },
	}
}

// P5.12: with a day less, more money, a shorter notice, a shorter pause, or a lower fee nothing costs more, and no fewer days can be covered.
func TestEasier(t *testing.T) {
	r := rand.New(rand.NewPCG(61, 1))
	saved, covered := map[string]int{}, map[string]int{}
	for range 2500 {
		x := large(r)
		wanted, today, money := someWanted(r, 95, 190), 60+r.IntN(50), r.IntN(1+r.IntN(3000))
		old, none := licence.Fee(x, today, wanted)
		most, e := licence.Most(x, today, wanted, money)
		right(t, "Most", e)
		ask := func(name string, x api.LicenceTown, wanted []int, money, least int) {
			n, e := licence.Fee(x, today, wanted)
			l, f := licence.Most(x, today, wanted, money)
			if none == api.OK && (e != api.OK || n > old) || len(l) < least || f != api.OK {
				t.Fatalf("with %s, %v on %d for %v and %d: %d, %d, %v, %d, and %d, %d, %v before", name, x, today, wanted, money, n, e, l, f, old, none, most)
			}
			if e != none || n < old {
				saved[name]++
			}
			if len(l) > least {
				covered[name]++
			}
		}
		for name, c := range easier(r) {
			ask(name, with(x, c), wanted, money, len(most))
		}
		ask("more money", x, wanted, money+r.IntN(8001-money), len(most))
		if len(wanted) > 0 {
			i := r.IntN(len(wanted))
			rest := slices.Delete(slices.Clone(wanted), i, i+1)
			ask("a day less", x, rest, money, len(without(most, wanted[i:i+1])))
		}
	}
	for _, name := range []string{"a shorter notice", "a shorter pause", "a lower fee", "a day less"} {
		if saved[name] < 25 {
			t.Errorf("with %s less was paid %d times only", name, saved[name])
		}
	}
	for _, name := range []string{"a shorter notice", "a shorter pause", "a lower fee", "a day less", "more money"} {
		if covered[name] < 15 {
			t.Errorf("with %s more days were covered %d times only", name, covered[name])
		}
	}
}

// P5.13: for no money those days can be covered that held licences cover, or licences that cost nothing; for the cheapest plan all.
func TestForNoMoney(t *testing.T) {
	r := rand.New(rand.NewPCG(62, 1))
	free, all := 0, 0
	for range 2000 {
		x := large(r)
		if r.IntN(3) == 0 {
			fee(r.IntN(len(x.Kinds)), 0)(&x)
		}
		wanted, today := someWanted(r, 95, 190), 60+r.IntN(50)
		l, e := licence.Most(x, today, wanted, 0)
		right(t, "Most", e)
		bought := slices.ContainsFunc(x.Kinds, func(k api.LicenceKind) bool { return k.Fee == 0 })
		shown := shownOn(x, nil, wanted)
		if !isAmong(shown, l) || !bought && len(l) > len(shown) {
			t.Fatalf("Most of %v on %d for %v and no money: %v, and %v are held", x, today, wanted, l, shown)
		}
		if n, e := licence.Fee(x, today, l); n != 0 || e != api.OK {
			t.Fatalf("Fee of %v on %d for %v: %d, %d, though they can be covered for nothing", x, today, l, n, e)
		}
		if len(l) > len(shown) {
			free++
		}
		n, e := licence.Fee(x, today, wanted)
		if e != api.OK {
			continue
		}
		if l, e := licence.Most(x, today, wanted, n); !slices.Equal(l, wanted) || e != api.OK {
			t.Fatalf("Most of %v on %d for %v and %d: %v, %d", x, today, wanted, n, l, e)
		}
		if n == 0 {
			continue
		}
		all++
		if l, e := licence.Most(x, today, wanted, n-1); len(l) >= len(wanted) || e != api.OK {
			t.Fatalf("Most of %v on %d for %v and %d: %v, %d", x, today, wanted, n-1, l, e)
		}
	}
	if min(free, all) < 200 {
		t.Errorf("%d had days for nothing, and %d paid for all only", free, all)
	}
}

package bill_test

import (
	"cmp"
	"math/rand/v2"
	"slices"
	"testing"

	"bioscope/api"
	"bioscope/bill"
)

// truth tells what is so of numbers that are known by spans only: of those that make a film be over later, and of those that make it be over sooner.
type truth struct{ later, sooner func(api.Span) int }

func low(s api.Span) int { return s.Low }

func high(s api.Span) int { return s.High }

func shortest() truth { return truth{low, high} }

func longest() truth { return truth{high, low} }

// anyTruth is one in which each number can be any one that it can be.
func anyTruth(r *rand.Rand) truth {
	pick := func(s api.Span) int { return s.Low + r.IntN(s.High-s.Low+1) }
	return truth{pick, pick}
}

// worn is how many feet a reel truly has, showing by showing.
func (w truth) worn(f api.BillFilm, x api.ReelReel) int {
	feet := w.later(x.Feet)
	for range f.Shows {
		feet = max(0, feet-w.sooner(f.Reels.Tear))
	}
	return feet
}

// spoolsOf is on how many spools the reels of a film are that belong in the order of their first scenes.
func spoolsOf(f api.BillFilm) int {
	l := slices.SortedFunc(slices.Values(f.Reels.Reels), func(one, other api.ReelReel) int { return one.First.Low - other.First.Low })
	spools, used := 0, f.Reels.Spool
	for _, x := range l {
		feet := longest().worn(f, x)
		if spools == 0 || used+feet > f.Reels.Spool {
			spools, used = spools+1, 0
		}
		used += feet
	}
	return spools
}

// long is how many tenths of a second a film truly lasts, foot by foot and change by change.
func (w truth) long(b api.BillBook, f api.BillFilm) (tenths int) {
	for _, x := range f.Reels.Reels {
		for range w.worn(f, x) {
			tenths += w.later(f.Reels.Turn)
		}
	}
	for spool := 1; spool < spoolsOf(f) && !b.Two; spool++ {
		tenths += 10 * w.later(b.Change)
	}
	return tenths
}

// all is how long each film of a book truly lasts.
func (w truth) all(b api.BillBook) (tenths []int) {
	for _, f := range b.Films {
		tenths = append(tenths, w.long(b, f))
	}
	return tenths
}

// overs is in which minute each film of an evening is over, if films last so long, and pauses as is true.
func (w truth) overs(v evening, lasts []int) (minutes []int) {
	now := 600 * v.at
	for i, film := range v.bill {
		if i > 0 {
			now += 600 * w.later(v.b.Pause)
		}
		if now < 600*v.b.Films[film].From {
			now = 600 * v.b.Films[film].From
		}
		now += lasts[film]
		over := 0
		for 600*over < now {
			over++
		}
		minutes = append(minutes, over)
	}
	return minutes
}

// reasonsOf tells of each reason against a film, in their order, whether it holds if the film is over in a minute.
func reasonsOf(b api.BillBook, film, over int) []bool {
	covered, barred := false, false
	for _, p := range b.Town.Held {
		for i := range b.Town.Kinds[p.Kind].Days {
			covered = covered || p.First+i == b.Day
		}
	}
	for _, s := range b.Town.Barred {
		for d := s.Low; d <= s.High; d++ {
			barred = barred || d == b.Day
		}
	}
	f := b.Films[film]
	rest := b.Town.Forbidden
	for range f.Film {
		rest /= 2
	}
	return []bool{!covered, barred, rest%2 == 1, over > b.Town.Close || over > 1439, over > f.Until}
}

func mayBeShown(b api.BillBook, film, over int) bool {
	return !slices.Contains(reasonsOf(b, film, over), true)
}

// isFine tells if each film of an evening may be shown, if films last so long, and pauses as is true.
func (w truth) isFine(v evening, lasts []int) bool {
	for i, over := range w.overs(v, lasts) {
		if !mayBeShown(v.b, v.bill[i], over) {
			return false
		}
	}
	return true
}

// within is a span within these numbers.
func within(r *rand.Rand, low, high int) api.Span {
	one, other := low+r.IntN(high-low+1), low+r.IntN(high-low+1)
	return span(min(one, other), max(one, other))
}

// someFilm is one of some reels, which are mixed up.
func someFilm(r *rand.Rand) api.BillFilm {
	f := api.BillFilm{Film: r.IntN(16), Until: 1439 - r.IntN(1+r.IntN(300)), From: r.IntN(1 + r.IntN(1300))}
	f.From = min(f.From, f.Until)
	f.Reels.Turn, f.Reels.Tear = within(r, 1, 1+r.IntN(12)), within(r, 0, r.IntN(20))
	if r.IntN(2) == 0 {
		f.Shows = r.IntN(1 + r.IntN(40))
	}
	most := 1
	for i := range 1 + r.IntN(4) {
		x := api.ReelReel{First: within(r, 10*i, 10*i+2), Last: within(r, 10*i+10, 10*i+12), Feet: within(r, 1, 1200)}
		x.First.High, x.Last.High = 10*i+2, 10*i+12
		f.Reels.Reels = append(f.Reels.Reels, x)
		most = max(most, longest().worn(f, x))
	}
	r.Shuffle(len(f.Reels.Reels), func(i, j int) {
		f.Reels.Reels[i], f.Reels.Reels[j] = f.Reels.Reels[j], f.Reels.Reels[i]
	})
	f.Reels.Spool = most + r.IntN(1+r.IntN(2400))
	return f
}

// large is a book of any numbers.
func large(r *rand.Rand) api.BillBook {
	b := api.BillBook{Day: 99 + r.IntN(9), Change: within(r, 0, r.IntN(601)), Pause: within(r, 0, r.IntN(30)), Two: r.IntN(4) == 0}
	b.Town = api.LicenceTown{Kinds: []api.LicenceKind{{Days: 7}}, Close: 1200 + r.IntN(240), Held: []api.LicencePaper{{First: 100}}, Forbidden: r.IntN(65536) & r.IntN(65536) & r.IntN(65536)}
	if r.IntN(4) == 0 {
		b.Town.Barred = []api.Span{within(r, 99, 107)}
	}
	for range 1 + r.IntN(5) {
		b.Films = append(b.Films, someFilm(r))
	}
	return b
}

// small is a book of brief films, of which many are over in the same minute, with little time.
func small(r *rand.Rand) api.BillBook {
	var feet []int
	for range 1 + r.IntN(5) {
		feet = append(feet, 300*(1+r.IntN(4)))
	}
	b := brief(feet...)
	b.Town.Close, b.Pause = 2+r.IntN(12), within(r, 0, r.IntN(3))
	for i := range b.Films {
		f := &b.Films[i]
		if r.IntN(3) == 0 {
			f.Until = 1 + r.IntN(12)
		}
		if r.IntN(3) == 0 {
			f.From = r.IntN(1 + min(f.Until, 8))
		}
		if r.IntN(3) == 0 {
			f.Reels.Turn.High = 2
		}
	}
	if r.IntN(3) == 0 {
		b.Town.Forbidden = 1 << r.IntN(5)
	}
	return b
}

// someBook is a small one or a large one, and a minute in which an evening of it can begin.
func someBook(r *rand.Rand) (api.BillBook, int) {
	if r.IntN(2) == 0 {
		return small(r), r.IntN(8)
	}
	b := large(r)
	return b, 1439 - r.IntN(340)
}

// someBill is one of any films of a book.
func someBill(r *rand.Rand, b api.BillBook) []int {
	return r.Perm(len(b.Films))[:1+r.IntN(len(b.Films))]
}

// billsOf are all bills of a book.
func billsOf(b api.BillBook) (all [][]int) {
	var put func(l []int)
	put = func(l []int) {
		for film := range b.Films {
			if !slices.Contains(l, film) {
				next := append(slices.Clone(l), film)
				all = append(all, next)
				put(next)
			}
		}
	}
	put(nil)
	return all
}

// P6.1, P6.2 and P6.9: each film lasts as long, and is over when, lies between what is told, whatever is true; both ends are so in something that can be true.
func TestWhateverIsTrue(t *testing.T) {
	r := rand.New(rand.NewPCG(63, 1))
	inside := 0
	for range 500 {
		b := large(r)
		right(t, "Check", bill.Check(b))
		v := evening{b, someBill(r, b), r.IntN(1440)}
		soonest, latest := shortest().all(b), longest().all(b)
		for film := range b.Films {
			if s, e := bill.Long(b, film); s != span(soonest[film], latest[film]) || e != api.OK {
				t.Fatalf("Long of %v, %d: %v, %d, not %d to %d", b, film, s, e, soonest[film], latest[film])
			}
		}
		ends, e := bill.Ends(v.b, v.bill, v.at)
		right(t, "Ends", e)
		first, last := shortest().overs(v, soonest), longest().overs(v, latest)
		for i, s := range ends {
			if s != span(first[i], last[i]) {
				t.Fatalf("Ends of %v: %v, not from %v to %v", v, ends, first, last)
			}
		}
		for range 3 {
			w := anyTruth(r)
			lasts := w.all(b)
			for i, over := range w.overs(v, lasts) {
				if over < ends[i].Low || over > ends[i].High {
					t.Fatalf("Ends of %v: %v, though the place %d is over in %d", v, ends, i, over)
				}
				if ends[i].Low < over && over < ends[i].High {
					inside++
				}
			}
		}
	}
	if inside < 500 {
		t.Errorf("%d films only were over between the ends", inside)
	}
}

// P6.3 and P6.8: why a film may not be shown is the first reason that holds for the last minute in which it can be over; without one, whatever is true, it is shown where and when it may be.
func TestBeforeTheHour(t *testing.T) {
	r := rand.New(rand.NewPCG(64, 1))
	seen := map[int]int{}
	fine := 0
	for range 3000 {
		b, at := someBook(r)
		v := evening{b, someBill(r, b), at}
		why, e := bill.Why(v.b, v.bill, v.at)
		right(t, "Why", e)
		all := true
		for i, over := range longest().overs(v, longest().all(b)) {
			want := slices.Index(reasonsOf(b, v.bill[i], over), true) + 1
			if why[i] != want {
				t.Fatalf("Why of %v: %v, not %d in the place %d", v, why, want, i)
			}
			seen[want]++
			all = all && want == api.LicenceFine
		}
		if !all {
			continue
		}
		fine++
		w := anyTruth(r)
		if !w.isFine(v, w.all(b)) || !shortest().isFine(v, shortest().all(b)) {
			t.Fatalf("Why of %v: %v, though a film may not be shown", v, why)
		}
	}
	for why := api.LicenceFine; why <= api.BillUntil; why++ {
		if seen[why] < 100 {
			t.Errorf("Why was %d only %d times", why, seen[why])
		}
	}
	if fine < 300 {
		t.Errorf("%d bills were fine only", fine)
	}
}

// P6.4 and P6.10: for the minute that is told the bill is fine, for a sooner one also, for a later one not.
func TestLatestOfAll(t *testing.T) {
	r := rand.New(rand.NewPCG(65, 1))
	none, some := 0, 0
	for range 500 {
		b, _ := someBook(r)
		v := evening{b: b, bill: someBill(r, b)}
		last, e := bill.Latest(v.b, v.bill)
		if e == api.ErrNone && last == 0 {
			none++
			last = -1
		} else {
			right(t, "Latest", e)
			some++
		}
		lasts := longest().all(b)
		for v.at = range 1440 {
			if longest().isFine(v, lasts) != (v.at <= last) {
				t.Fatalf("Latest of %v: %d, %d", v, last, e)
			}
		}
		for _, at := range []int{0, last, last + 1, 1439} {
			if at < 0 || at > 1439 {
				continue
			}
			why, e := bill.Why(v.b, v.bill, at)
			right(t, "Why", e)
			if (slices.Max(why) == api.LicenceFine) != (at <= last) {
				t.Fatalf("Latest of %v: %d, and Why at %d: %v", v, last, at, why)
			}
		}
	}
	if min(none, some) < 100 {
		t.Errorf("%d bills are never fine, and %d are only", none, some)
	}
}

// P6.5 and P6.11: no bill that is fine has more films than the one that is told, nor as many and is over sooner, nor as soon and comes first.
func TestBestOfAll(t *testing.T) {
	r := rand.New(rand.NewPCG(66, 1))
	none, alone, many := 0, 0, 0
	for range 1500 {
		b, at := someBook(r)
		lasts := longest().all(b)
		over := func(l []int) int { return slices.Max(longest().overs(evening{b, l, at}, lasts)) }
		all := slices.DeleteFunc(billsOf(b), func(l []int) bool { return !longest().isFine(evening{b, l, at}, lasts) })
		best, e := bill.Best(b, at)
		if len(all) == 0 {
			none++
			if len(best) > 0 || e != api.ErrNone {
				t.Fatalf("Best of %v at %d: %v, %d, though there is none", b, at, best, e)
			}
			continue
		}
		want := slices.MinFunc(all, func(one, other []int) int {
			return cmp.Or(len(other)-len(one), over(one)-over(other), slices.Compare(one, other))
		})
		if !slices.Equal(best, want) || e != api.OK {
			t.Fatalf("Best of %v at %d: %v, %d, not %v", b, at, best, e, want)
		}
		if len(best) > 1 {
			many++
		} else if len(b.Films) > 1 {
			alone++
		}
	}
	if min(none, alone, many) < 150 {
		t.Errorf("%d have no best bill, %d one of one film, and %d one of more only", none, alone, many)
	}
}

// P6.6 and P6.12: what is left out is no more than all, no other list is shorter, or as long and comes first, and without it the rest is fine.
func TestLeaveOfAll(t *testing.T) {
	r := rand.New(rand.NewPCG(67, 1))
	none, some, all := 0, 0, 0
	for range 2500 {
		b, at := someBook(r)
		l := someBill(r, b)
		lasts := longest().all(b)
		var lists [][]int
		for set := range 1 << len(l) {
			var left, rest []int
			for place, film := range l {
				if set>>place%2 == 1 {
					left = append(left, place)
				} else {
					rest = append(rest, film)
				}
			}
			if longest().isFine(evening{b, rest, at}, lasts) {
				lists = append(lists, left)
			}
		}
		want := slices.MinFunc(lists, func(one, other []int) int {
			return cmp.Or(len(one)-len(other), slices.Compare(one, other))
		})
		left, e := bill.Leave(b, l, at)
		if !slices.Equal(left, want) || e != api.OK {
			t.Fatalf("Leave of %v, %v at %d: %v, %d, not %v", b, l, at, left, e, want)
		}
		switch {
		case len(left) == 0:
			none++
		case len(left) < len(l):
			some++
		default:
			all++
		}
	}
	if min(none, some, all) < 250 {
		t.Errorf("nothing was left out %d times, something %d times, and all %d times only", none, some, all)
	}
}

// easier are the ways in which no film is over later.
func easier(r *rand.Rand) map[string]change {
	lower := func(s *api.Span) {
		s.Low -= r.IntN(s.Low + 1)
		s.High -= r.IntN(s.High - s.Low + 1)
	}
	return map[string]change{
		"two projectors":   two,
		"a shorter change": func(b *api.BillBook) { lower(&b.Change) },
		"a shorter pause":  func(b *api.BillBook) { lower(&b.Pause) },
		"a later Until": func(b *api.BillBook) {
			f := &b.Films[r.IntN(len(b.Films))]
			f.Until += r.IntN(1440 - f.Until)
		},
	}
}

// P6.12: with two projectors, a shorter change or pause, or a later Until no film is over later, and no fewer can be shown.
func TestEasier(t *testing.T) {
	r := rand.New(rand.NewPCG(68, 1))
	sooner, more, later := map[string]int{}, map[string]int{}, map[string]int{}
	for range 2500 {
		b := large(r)
		b.Two = false
		l, at := someBill(r, b), 1400-r.IntN(300)
		ends, e := bill.Ends(b, l, at)
		right(t, "Ends", e)
		best, _ := bill.Best(b, at)
		left, e := bill.Leave(b, l, at)
		right(t, "Leave", e)
		last, none := bill.Latest(b, l)
		for name, c := range easier(r) {
			x := with(b, c)
			ends2, e := bill.Ends(x, l, at)
			right(t, "Ends", e)
			for i := range ends {
				if ends2[i].Low > ends[i].Low || ends2[i].High > ends[i].High {
					t.Fatalf("with %s, Ends of %v, %v at %d: %v, and %v before", name, x, l, at, ends2, ends)
				}
			}
			best2, _ := bill.Best(x, at)
			left2, e := bill.Leave(x, l, at)
			right(t, "Leave", e)
			last2, none2 := bill.Latest(x, l)
			if len(best2) < len(best) || len(left2) > len(left) || none == api.OK && (none2 != api.OK || last2 < last) {
				t.Fatalf("with %s, Best, Leave and Latest of %v, %v at %d: %v, %v, %d, %d, and %v, %v, %d, %d before", name, x, l, at, best2, left2, last2, none2, best, left, last, none)
			}
			if !slices.Equal(ends, ends2) {
				sooner[name]++
			}
			if len(best2) > len(best) {
				more[name]++
			}
			if none2 != none || last2 > last {
				later[name]++
			}
		}
	}
	for name := range easier(r) {
		if name != "a later Until" && sooner[name] < 100 || more[name] < 15 || later[name] < 50 {
			t.Errorf("with %s films were over sooner %d times, more were shown %d times, and a bill could begin later %d times only", name, sooner[name], more[name], later[name])
		}
	}
}

package train_test

import (
	"math/rand/v2"
	"slices"
	"testing"

	"bioscope/api"
	"bioscope/train"
)

// isOpen looks through all minutes in which the office of a station is open.
func isOpen(t api.TrainTable, station, m int) bool {
	for _, open := range t.Offices[station] {
		for k := open.Low; k <= open.High; k++ {
			if k == m {
				return true
			}
		}
	}
	return false
}

// legsOf are all legs that there are, in their order.
func legsOf(t api.TrainTable) (l []api.TrainLeg) {
	for i, x := range t.Trains {
		for from := range x.Stops {
			for to := from + 1; to < len(x.Stops); to++ {
				l = append(l, leg(i, from, to))
			}
		}
	}
	return l
}

func startOf(t api.TrainTable, l api.TrainLeg) int { return t.Trains[l.Train].Stops[l.From].Station }

func endOf(t api.TrainTable, l api.TrainLeg) int { return t.Trains[l.Train].Stops[l.To].Station }

// chainsOf are all lists of at most four legs, each with another train, that follow one another; in the order of routes.
func chainsOf(t api.TrainTable) [][]api.TrainLeg {
	all := [][]api.TrainLeg{nil}
	for i := 0; i < len(all) && len(all[i]) < 4; i++ {
		for _, next := range legsOf(t) {
			last := len(all[i]) - 1
			twice := slices.ContainsFunc(all[i], func(l api.TrainLeg) bool { return l.Train == next.Train })
			if twice || last >= 0 && endOf(t, all[i][last]) != startOf(t, next) {
				continue
			}
			all = append(all, append(slices.Clone(all[i]), next))
		}
	}
	return all[1:]
}

// routesOf are all routes, in their order.
func routesOf(t api.TrainTable) [][]api.TrainLeg {
	return slices.DeleteFunc(chainsOf(t), func(l []api.TrainLeg) bool {
		return startOf(t, l[0]) == endOf(t, l[len(l)-1])
	})
}

// delaysOf calls visit with by how much all trains of a route can be late; those of others are not told.
func delaysOf(t api.TrainTable, l []api.TrainLeg, visit func(delays [6]int)) {
	var delays [6]int
	var next func(i int)
	next = func(i int) {
		if i == len(l) {
			visit(delays)
			return
		}
		x := l[i].Train
		for n := t.Trains[x].Late.Low; n <= t.Trains[x].Late.High; n++ {
			delays[x] = n
			next(i + 1)
		}
	}
	next(0)
}

// send sends a box by a route with trains that are truly so late: when it is there, and all legs whose train left too soon, as far as it is told by the train before.
func send(t api.TrainTable, l []api.TrainLeg, at int, delays [6]int) (there int, missed []int) {
	arrived := at
	for i, x := range l {
		stops := t.Trains[x.Train].Stops
		if stops[x.From].Leave+delays[x.Train] < arrived+t.Load {
			missed = append(missed, i)
		}
		arrived = stops[x.To].Arrive + delays[x.Train]
	}
	there = arrived + t.Load
	for there < 2880 && !isOpen(t, endOf(t, l[len(l)-1]), there) {
		there++
	}
	return min(there, 2880), missed
}

// fate is what can become of a box.
type fate struct {
	taken        bool
	goes, misses int
	there        api.Span
	missed       []int
}

func fateOf(t api.TrainTable, l []api.TrainLeg, at int) fate {
	f := fate{taken: isOpen(t, startOf(t, l[0]), at)}
	if !f.taken {
		return f
	}
	delaysOf(t, l, func(delays [6]int) {
		there, missed := send(t, l, at, delays)
		if len(missed) > 0 {
			f.misses++
		} else if f.goes++; f.goes == 1 {
			f.there = span(there, there)
		} else {
			f.there = span(min(f.there.Low, there), max(f.there.High, there))
		}
		f.missed = append(f.missed, missed...)
	})
	slices.Sort(f.missed)
	f.missed = slices.Compact(f.missed)
	return f
}

// surely is by which minute the box surely is there, and whether it is.
func (f fate) surely() (int, bool) {
	return f.there.High, f.taken && f.misses == 0 && f.there.High < 2880
}

// small is a timetable of which all can be counted, in the middle, at the beginning or at the end of all minutes.
func small(r *rand.Rand) (x api.TrainTable, first, minutes int) {
	minutes = 16 + r.IntN(32)
	first = []int{0, 500, 2880 - minutes}[r.IntN(3)]
	return someTable(r, 2+r.IntN(3), 4, 2+r.IntN(3), first, minutes, r.IntN(4)), first, minutes
}

// line is a small timetable of four trains from each station to the next one, and of two others.
func line(r *rand.Rand) (x api.TrainTable, first, minutes int) {
	first, minutes = r.IntN(2)*2838, 42
	x.Load = r.IntN(3)
	for range 5 {
		x.Offices = append(x.Offices, someHours(r, first, minutes))
	}
	join := func(from, to, m int) {
		m += first + r.IntN(4)
		x.Trains = append(x.Trains, runs(0, r.IntN(3), stop(from, m, m), stop(to, m+1+r.IntN(4), first+minutes-1)))
	}
	for k := range 4 {
		join(k, k+1, 2+9*k)
	}
	join(r.IntN(2), 2, r.IntN(20))
	join(2, 3+r.IntN(2), r.IntN(30))
	r.Shuffle(6, func(i, k int) { x.Trains[i], x.Trains[k] = x.Trains[k], x.Trains[i] })
	return x, first, minutes
}

// P3.1: IsRoute of routes, and of legs that are changed.
func TestIsRouteOfAll(t *testing.T) {
	r := rand.New(rand.NewPCG(31, 1))
	for range 150 {
		x, _, _ := small(r)
		all := routesOf(x)
		if len(all) == 0 {
			continue
		}
		for range 40 {
			l := slices.Clone(all[r.IntN(len(all))])
			change(r, x, l)
			from, to := r.IntN(len(x.Offices)), r.IntN(len(x.Offices))
			if r.IntN(3) > 0 {
				from, to = startOf(x, all[0][0]), endOf(x, all[0][len(all[0])-1])
			}
			is := slices.ContainsFunc(all, func(o []api.TrainLeg) bool { return slices.Equal(o, l) })
			want := is && startOf(x, l[0]) == from && endOf(x, l[len(l)-1]) == to
			if got, e := train.IsRoute(x, l, from, to); from != to && (got != want || e != api.OK) || from == to && e != api.ErrTrainAsk {
				t.Fatalf("IsRoute of %v from %d to %d in %v: %v, %d", l, from, to, x, got, e)
			}
			if _, e := train.Goes(x, l, 0); (e == api.OK) != is {
				t.Fatalf("Goes of %v in %v: %d", l, x, e)
			}
		}
	}
}

// change changes one leg of a route, mostly.
func change(r *rand.Rand, x api.TrainTable, l []api.TrainLeg) {
	i := r.IntN(len(l))
	switch r.IntN(4) {
	case 0:
		l[i].Train = r.IntN(len(x.Trains))
	case 1:
		l[i].From = r.IntN(5)
	case 2:
		l[i].To = r.IntN(5)
	}
}

// P3.2 and P3.3: what becomes of boxes, counted for all that trains can be late.
func TestFates(t *testing.T) {
	r := rand.New(rand.NewPCG(32, 1))
	var kinds [3]int
	for i := range 600 {
		x, first, minutes := small(r)
		if i%4 == 0 {
			x, first, minutes = line(r)
		}
		all := routesOf(x)
		for range min(len(all), 12) {
			l, at := all[r.IntN(len(all))], first+r.IntN(minutes)
			f := fateOf(x, l, at)
			goes, e := train.Goes(x, l, at)
			right(t, "Goes", e)
			want := api.TrainNo
			if f.goes > 0 {
				want = api.TrainMay
			}
			if f.goes > 0 && f.misses == 0 {
				want = api.TrainYes
			}
			kinds[want]++
			if goes != want {
				t.Fatalf("Goes of %v at %d in %v: %d, not %d", l, at, x, goes, want)
			}
			missed, e := train.Missed(x, l, at)
			if (e == api.OK) != f.taken || e != api.OK && e != api.ErrNone || !slices.Equal(missed, f.missed) {
				t.Fatalf("Missed of %v at %d in %v: %v, %d, not %v", l, at, x, missed, e, f.missed)
			}
			there, e := train.There(x, l, at)
			if (e == api.OK) != (f.goes > 0) || e != api.OK && e != api.ErrNone || there != f.there {
				t.Fatalf("There of %v at %d in %v: %v, %d, not %v", l, at, x, there, e, f.there)
			}
		}
	}
	if slices.Contains(kinds[:], 0) {
		t.Errorf("boxes of all kinds were not tried: %v", kinds)
	}
}

// truth is what is so of all routes from one station to another one, for a box that is handed in in a minute.
type truth struct {
	best            []api.TrainLeg
	surely, soonest int
}

// truthOf is told by what becomes of a box by each of these routes; -1 is told where there is none.
func truthOf(t api.TrainTable, all [][]api.TrainLeg, at int) truth {
	x := truth{surely: -1, soonest: -1}
	for _, l := range all {
		f := fateOf(t, l, at)
		if there, sure := f.surely(); sure && (x.surely < 0 || there < x.surely) {
			x.best, x.surely = l, there
		}
		if f.goes > 0 && f.there.Low < 2880 && (x.soonest < 0 || f.there.Low < x.soonest) {
			x.soonest = f.there.Low
		}
	}
	return x
}

// between are those of some routes that lead from one station to another one.
func between(t api.TrainTable, all [][]api.TrainLeg, from, to int) (l [][]api.TrainLeg) {
	for _, x := range all {
		if startOf(t, x[0]) == from && endOf(t, x[len(x)-1]) == to {
			l = append(l, x)
		}
	}
	return l
}

// orNone is a result, or -1 if there is none; it ends the test if there is another error.
func orNone(t *testing.T, name string, n int, e api.Errno) int {
	t.Helper()
	if e == api.ErrNone && n == 0 {
		return -1
	}
	right(t, name, e)
	return n
}

// P3.4 to P3.7: the best routes of all that there are, and the last minutes in which a box can be handed in.
func TestBestOfAll(t *testing.T) {
	r := rand.New(rand.NewPCG(33, 1))
	var best [5]int
	for i := range 400 {
		x, first, minutes := small(r)
		if i%4 == 0 {
			x, first, minutes = line(r)
		}
		all := routesOf(x)
		if len(all) > 300 {
			continue // for the time that it takes
		}
		from := r.IntN(len(x.Offices)) * r.IntN(2)
		for to := range x.Offices {
			if to == from {
				continue
			}
			l := between(x, all, from, to)
			last := map[int]int{}
			for m := first; m < first+minutes; m++ {
				want := truthOf(x, l, m)
				best[len(want.best)]++
				for by := want.surely; want.surely >= 0 && by < first+minutes; by++ {
					last[by] = m
				}
				askBest(t, x, from, to, m, want)
			}
			for by := first; by < first+minutes; by++ {
				want, is := last[by]
				n, e := train.Latest(x, from, to, by)
				if n != want || is && e != api.OK || !is && e != api.ErrNone {
					t.Fatalf("Latest from %d to %d by %d in %v: %d, %d, not %d", from, to, by, x, n, e, want)
				}
			}
		}
	}
	if slices.Contains(best[:], 0) {
		t.Errorf("best routes of all lengths were not tried: %v", best)
	}
}

// askBest asks for the best routes, and compares them with what is true.
func askBest(t *testing.T, x api.TrainTable, from, to, at int, want truth) {
	t.Helper()
	best, e := train.Best(x, from, to, at)
	if !slices.Equal(best, want.best) || e != api.OK && e != api.ErrNone || (e == api.OK) != (want.surely >= 0) {
		t.Fatalf("Best from %d to %d at %d in %v: %v, %d, not %v", from, to, at, x, best, e, want.best)
	}
	n, e := train.Surely(x, from, to, at)
	if got := orNone(t, "Surely", n, e); got != want.surely {
		t.Fatalf("Surely from %d to %d at %d in %v: %d, not %d", from, to, at, x, got, want.surely)
	}
	n, e = train.Soonest(x, from, to, at)
	if got := orNone(t, "Soonest", n, e); got != want.soonest {
		t.Fatalf("Soonest from %d to %d at %d in %v: %d, not %d", from, to, at, x, got, want.soonest)
	}
	reach, e := train.Reach(x, from, at)
	right(t, "Reach", e)
	if len(reach) != len(x.Offices) || reach[from] != at || reach[to] != want.surely {
		t.Fatalf("Reach from %d at %d in %v: %v, not %d at %d", from, at, x, reach, want.surely, to)
	}
}

// large is a timetable of a whole day or two.
func large(r *rand.Rand) api.TrainTable {
	return someTable(r, 5, 6, 5, r.IntN(200), 800+r.IntN(1880), 5+r.IntN(86))
}

// someDelays is by how much all trains truly are late.
func someDelays(r *rand.Rand, t api.TrainTable) (delays [6]int) {
	for i, x := range t.Trains {
		delays[i] = x.Late.Low + r.IntN(x.Late.High-x.Late.Low+1)
		switch r.IntN(4) {
		case 0:
			delays[i] = x.Late.Low
		case 1:
			delays[i] = x.Late.High
		}
	}
	return delays
}

// someMinute is one in which an office is open, mostly.
func someMinute(r *rand.Rand, t api.TrainTable, station int) int {
	m := r.IntN(2880)
	for range 8 {
		if isOpen(t, station, m) {
			break
		}
		m = r.IntN(2880)
	}
	return m
}

// P3.9: however late trains truly are, by the route that is told the box misses none, and is there by the minute that is told; by no other route it surely is there sooner.
func TestBoxSurelyIsThere(t *testing.T) {
	r := rand.New(rand.NewPCG(34, 1))
	some := 0
	for range 2500 {
		x := large(r)
		from, to := r.IntN(len(x.Offices)), r.IntN(len(x.Offices))
		at := someMinute(r, x, from)
		l, e := train.Best(x, from, to, at)
		if e != api.OK {
			continue
		}
		some++
		by, e := train.Surely(x, from, to, at)
		right(t, "Surely", e)
		worst := span(by, 0)
		for range 20 {
			there, missed := send(x, l, at, someDelays(r, x))
			worst.High = max(worst.High, there)
			if len(missed) > 0 || there > by {
				t.Fatalf("by %v at %d in %v the box misses %v, and is there at %d, not by %d", l, at, x, missed, there, by)
			}
		}
		var latest [6]int
		for i, y := range x.Trains {
			latest[i] = y.Late.High
		}
		if there, _ := send(x, l, at, latest); there != by {
			t.Fatalf("by %v at %d in %v the box is there at %d at the latest, not at %d", l, at, x, there, by)
		}
		if is, e := train.IsRoute(x, l, from, to); !is || e != api.OK {
			t.Fatalf("%v from %d to %d in %v is no route", l, from, to, x)
		}
		soonerByOther(t, r, x, at, from, to, by)
	}
	if some < 200 {
		t.Errorf("boxes surely are there %d times only", some)
	}
}

// soonerByOther fails if a box surely is there sooner by another route, of some that are tried.
func soonerByOther(t *testing.T, r *rand.Rand, x api.TrainTable, at, from, to, by int) {
	t.Helper()
	legs := legsOf(x)
	for range 60 {
		var l []api.TrainLeg
		for station := from; len(l) < 4 && station != to; {
			next := legs[r.IntN(len(legs))]
			if startOf(x, next) == station {
				l, station = append(l, next), endOf(x, next)
			} else if r.IntN(20) == 0 {
				break
			}
		}
		if is, _ := train.IsRoute(x, l, from, to); !is {
			continue
		}
		goes, _ := train.Goes(x, l, at)
		there, e := train.There(x, l, at)
		if goes == api.TrainYes && (e != api.OK || there.High < by) {
			t.Fatalf("by %v at %d in %v the box surely is there by %d, sooner than by %d", l, at, x, there.High, by)
		}
	}
}

// P3.10: if the box misses no train it is there between what is told, and no sooner than in the soonest minute; if it misses one, that is among those that are told.
func TestBoxPerhapsIsThere(t *testing.T) {
	r := rand.New(rand.NewPCG(35, 1))
	went, missing := 0, 0
	for range 1500 {
		x := someTable(r, 3, 4, 4, 300, 300, 90)
		all := routesOf(x)
		if len(all) == 0 {
			continue
		}
		l := all[r.IntN(len(all))]
		from, to := startOf(x, l[0]), endOf(x, l[len(l)-1])
		at := someMinute(r, x, from) % 600
		delays := someDelays(r, x)
		there, missed := send(x, l, at, delays)
		told, e := train.Missed(x, l, at)
		if e != api.OK {
			continue // the office is shut
		}
		for _, i := range missed {
			missing++
			if !slices.Contains(told, i) {
				t.Fatalf("by %v at %d in %v the box misses %d, not one of %v, if trains are late by %v", l, at, x, i, told, delays)
			}
		}
		goes, e := train.Goes(x, l, at)
		right(t, "Goes", e)
		if (goes == api.TrainYes) != (len(told) == 0) {
			t.Fatalf("by %v at %d in %v the box goes: %d, and can miss %v", l, at, x, goes, told)
		}
		if len(missed) > 0 {
			continue
		}
		went++
		between, e := train.There(x, l, at)
		right(t, "There", e)
		soonest, e := train.Soonest(x, from, to, at)
		if there < between.Low || there > between.High || goes == api.TrainNo || there < 2880 && (e != api.OK || there < soonest) {
			t.Fatalf("by %v at %d in %v the box is there at %d, not between %v, nor from %d on", l, at, x, there, between, soonest)
		}
	}
	if went < 30 || missing < 30 {
		t.Errorf("boxes went %d times only, and missed %d trains", went, missing)
	}
}

// worse is a timetable with a train that can be late by more.
func worse(r *rand.Rand, t api.TrainTable) api.TrainTable {
	return with(t, func(t *api.TrainTable) {
		if len(t.Trains) > 0 {
			late := &t.Trains[r.IntN(len(t.Trains))].Late
			late.High = min(90, late.High+1+r.IntN(20))
			late.Low = max(0, late.Low-r.IntN(3))
		}
	})
}

// easier is a timetable with an office that is open longer, or less time to load.
func easier(r *rand.Rand, t api.TrainTable) api.TrainTable {
	return with(t, func(t *api.TrainTable) {
		open := t.Offices[r.IntN(len(t.Offices))]
		if t.Load > 0 && r.IntN(2) == 0 {
			t.Load -= 1 + r.IntN(t.Load)
			return
		}
		if len(open) == 0 {
			return
		}
		i := r.IntN(len(open))
		low, high := 0, 2879
		if i > 0 {
			low = open[i-1].High + 1
		}
		if i+1 < len(open) {
			high = open[i+1].Low - 1
		}
		open[i].Low -= r.IntN(open[i].Low - low + 1)
		open[i].High += r.IntN(high - open[i].High + 1)
	})
}

// P3.11: if a train can be late by more no box surely goes that did not; if an office is open longer, or it takes less time to load, none surely is there later.
func TestMoreLate(t *testing.T) {
	r := rand.New(rand.NewPCG(36, 1))
	some := 0
	for range 2500 {
		x := someTable(r, 4, 6, 4, r.IntN(1000), 400+r.IntN(1000), r.IntN(50))
		from, to := r.IntN(len(x.Offices)), r.IntN(len(x.Offices))
		if from == to {
			continue
		}
		at := someMinute(r, x, from)
		n, e := train.Surely(x, from, to, at)
		was := orNone(t, "Surely", n, e)
		n, e = train.Surely(easier(r, x), from, to, at)
		if now := orNone(t, "Surely", n, e); was >= 0 && (now < 0 || now > was) {
			t.Fatalf("from %d to %d at %d in %v: by %d, and by %d if it is easier", from, to, at, x, was, now)
		}
		late := worse(r, x)
		n, e = train.Surely(late, from, to, at)
		if now := orNone(t, "Surely", n, e); now >= 0 && (was < 0 || now < was) {
			t.Fatalf("from %d to %d at %d in %v: by %d, and by %d if trains can be late by more", from, to, at, x, was, now)
		}
		if l, e := train.Best(x, from, to, at); e == api.OK {
			some++
			goes, _ := train.Goes(late, l, at)
			missed, _ := train.Missed(late, l, at)
			if (goes == api.TrainYes) != (len(missed) == 0) || goes == api.TrainNo {
				t.Fatalf("by %v at %d in %v: %d, and %v can be missed", l, at, late, goes, missed)
			}
		}
	}
	if some < 200 {
		t.Errorf("boxes surely are there %d times only", some)
	}
}

// P3.12: a box that is handed in in the minute that is told surely is there in time; in no later minute.
func TestHandedInInTime(t *testing.T) {
	r := rand.New(rand.NewPCG(37, 1))
	some := 0
	for range 1200 {
		x := someTable(r, 4, 5, 4, r.IntN(1000), 400+r.IntN(1000), r.IntN(50))
		from, to := r.IntN(len(x.Offices)), r.IntN(len(x.Offices))
		by := r.IntN(2880)
		last, e := train.Latest(x, from, to, by)
		if from == to || e != api.OK && e != api.ErrNone {
			continue
		}
		if e == api.ErrNone {
			last = -1
		} else {
			some++
			if n, e := train.Surely(x, from, to, last); e != api.OK || n > by {
				t.Fatalf("from %d to %d at %d in %v: by %d, %d, not by %d", from, to, last, x, n, e, by)
			}
		}
		for range 25 {
			m := last + 1 + r.IntN(2880-last)
			if n, e := train.Surely(x, from, to, m); e == api.OK && n <= by {
				t.Fatalf("from %d to %d at %d in %v: by %d, though %d is told for %d", from, to, m, x, n, last, by)
			}
		}
	}
	if some < 100 {
		t.Errorf("boxes can be handed in %d times only", some)
	}
}

// P3.13: a box that is handed in later surely is there no sooner, as long as the office is open in both minutes.
func TestHandedInLater(t *testing.T) {
	r := rand.New(rand.NewPCG(38, 1))
	some := 0
	for range 1500 {
		x := someTable(r, 4, 6, 4, r.IntN(1000), 400+r.IntN(1000), r.IntN(50))
		from, to := r.IntN(len(x.Offices)), r.IntN(len(x.Offices))
		soon, late := someMinute(r, x, from), someMinute(r, x, from)
		soon, late = min(soon, late), max(soon, late)
		if from == to || !isOpen(x, from, soon) || !isOpen(x, from, late) {
			continue
		}
		n, e := train.Surely(x, from, to, soon)
		first := orNone(t, "Surely", n, e)
		n, e = train.Surely(x, from, to, late)
		if then := orNone(t, "Surely", n, e); then >= 0 {
			some++
			if first < 0 || first > then {
				t.Fatalf("from %d to %d in %v: by %d at %d, and by %d at %d", from, to, x, first, soon, then, late)
			}
		}
	}
	if some < 50 {
		t.Errorf("boxes surely are there %d times only", some)
	}
}

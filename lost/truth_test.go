package lost_test

import (
	"fmt"
	"math/rand/v2"
	"slices"
	"testing"

	"bioscope/api"
	"bioscope/lost"
)

func within(r *rand.Rand, s api.Span) int { return s.Low + r.IntN(s.High-s.Low+1) }

// startOf and endOf are the stops at which a leg begins and ends.
func startOf(b api.LostBook, l api.TrainLeg) api.TrainStop {
	return b.Table.Trains[l.Train].Stops[l.From]
}

func endOf(b api.LostBook, l api.TrainLeg) api.TrainStop {
	return b.Table.Trains[l.Train].Stops[l.To]
}

// journeysOf are all journeys, in their order.
func journeysOf(b api.LostBook) [][]api.TrainLeg {
	all := [][]api.TrainLeg{nil}
	for i := 0; i < len(all) && len(all[i]) < b.Legs; i++ {
		station := b.From
		for _, l := range all[i] {
			station = endOf(b, l).Station
		}
		for train, x := range b.Table.Trains {
			twice := slices.ContainsFunc(all[i], func(l api.TrainLeg) bool { return l.Train == train })
			for from := range x.Stops {
				for to := from + 1; to < len(x.Stops) && !twice; to++ {
					if x.Stops[from].Station == station {
						all = append(all, append(slices.Clone(all[i]), leg(train, from, to)))
					}
				}
			}
		}
	}
	return all
}

// delays is by how much each train is late.
type delays [6]int

// delaysOf calls see with all that can be of some trains, 0 for the others.
func delaysOf(b api.LostBook, of []int, see func(d delays)) {
	var d delays
	var next func(i int)
	next = func(i int) {
		if i == len(of) {
			see(d)
			return
		}
		x := b.Table.Trains[of[i]]
		for d[of[i]] = x.Late.Low; d[of[i]] <= x.Late.High; d[of[i]]++ {
			next(i + 1)
		}
	}
	next(0)
}

// goes tells if the box can make a journey, with trains that are so late.
func goes(b api.LostBook, l []api.TrainLeg, d delays) bool {
	ready := b.At + b.Table.Load
	for _, x := range l {
		if startOf(b, x).Leave+d[x.Train] < ready {
			return false
		}
		ready = endOf(b, x).Arrive + d[x.Train] + b.Table.Load
	}
	return true
}

// spot is where a box is: on the train of a guard, or at a station.
type spot struct {
	guard bool
	who   int
}

func spotOf(b api.LostBook, l []api.TrainLeg, d delays, minute int) spot {
	for _, x := range l {
		if startOf(b, x).Leave+d[x.Train] <= minute && endOf(b, x).Arrive+d[x.Train] > minute {
			return spot{true, x.Train}
		}
	}
	station := b.From
	for _, x := range l {
		if endOf(b, x).Arrive+d[x.Train] <= minute {
			station = endOf(b, x).Station
		}
	}
	return spot{false, station}
}

// truth is one: a journey, by its number, and by how much each train is late.
type truth struct {
	journey int
	late    delays
}

// model is a book with all journeys, and all truths that there are without its sights.
type model struct {
	api.LostBook
	journeys [][]api.TrainLeg
	truths   []truth
}

// modelOf looks at all trains however late they are; or, if there would be too many truths, at those that go with each journey.
func modelOf(b api.LostBook, all bool) model {
	m := model{LostBook: b, journeys: journeysOf(b)}
	for i, l := range m.journeys {
		var of []int
		for train := range b.Table.Trains {
			if all || slices.ContainsFunc(l, func(x api.TrainLeg) bool { return x.Train == train }) {
				of = append(of, train)
			}
		}
		delaysOf(b, of, func(d delays) {
			if goes(b, l, d) {
				m.truths = append(m.truths, truth{i, d})
			}
		})
	}
	return m
}

func (m model) spot(x truth, minute int) spot {
	return spotOf(m.LostBook, m.journeys[x.journey], x.late, minute)
}

// isSo tells if a sight is right.
func (m model) isSo(x truth, s api.LostSight) bool {
	return (m.spot(x, s.Minute) == spot{s.Guard, s.Who}) == s.Seen
}

// right are all truths in which all sights are right, but for those that are left out.
func (m model) right(without int) (l []truth) {
	for _, x := range m.truths {
		is := true
		for i, s := range m.Sights {
			is = is && (without>>i&1 == 1 || m.isSo(x, s))
		}
		if is {
			l = append(l, x)
		}
	}
	return l
}

// ways are how many journeys there are in truths.
func ways(l []truth) int {
	seen := map[int]bool{}
	for _, x := range l {
		seen[x.journey] = true
	}
	return len(seen)
}

// where is at which stations, and on which trains, the box is in a minute in truths.
func (m model) where(l []truth, minute int) (stations, trains []int) {
	seen := map[spot]bool{}
	for _, x := range l {
		seen[m.spot(x, minute)] = true
	}
	for i := range 6 {
		if seen[spot{false, i}] {
			stations = append(stations, i)
		}
		if seen[spot{true, i}] {
			trains = append(trains, i)
		}
	}
	return stations, trains
}

// lateIn is between what a train is late in truths; one that is not used by the journey as the table tells.
func (m model) lateIn(l []truth, train int) api.Span {
	late := span(1000, -1)
	for _, x := range l {
		s := span(x.late[train], x.late[train])
		if !slices.ContainsFunc(m.journeys[x.journey], func(l api.TrainLeg) bool { return l.Train == train }) {
			s = m.Table.Trains[train].Late
		}
		late = span(min(late.Low, s.Low), max(late.High, s.High))
	}
	return late
}

// wrong are the fewest sights without which there is a truth, the first ones: all lists of sights are tried in their order.
func (m model) wrong() []int {
	for many := range 7 {
		var found []int
		var try func(list []int) bool
		try = func(list []int) bool {
			if len(list) == many {
				without := 0
				for _, i := range list {
					without |= 1 << i
				}
				found = slices.Clone(list)
				return len(m.right(without)) > 0
			}
			next := 0
			if len(list) > 0 {
				next = list[len(list)-1] + 1
			}
			for ; next < len(m.Sights); next++ {
				if try(append(list, next)) {
					return true
				}
			}
			return false
		}
		if try(nil) {
			return found
		}
	}
	return nil
}

// worst is how many journeys are left at the worst of what an office can answer.
func (m model) worst(l []truth, station, minute int) int {
	var yes, no []truth
	for _, x := range l {
		if (m.spot(x, minute) == spot{false, station}) {
			yes = append(yes, x)
		} else {
			no = append(no, x)
		}
	}
	return max(ways(yes), ways(no))
}

func (m model) ask(l []truth, minute int) (int, api.Errno) {
	switch ways(l) {
	case 0:
		return 0, api.ErrLostFalse
	case 1:
		return 0, api.ErrNone
	}
	best := 0
	for station := range m.Table.Offices {
		if m.worst(l, station, minute) < m.worst(l, best, minute) {
			best = station
		}
	}
	return best, api.OK
}

// compare holds what the functions tell of a book against all truths.
func compare(t *testing.T, m model, minutes ...int) {
	t.Helper()
	b, l := m.LostBook, m.right(0)
	same := func(name string, got, want any, e, wantError api.Errno) {
		t.Helper()
		if fmt.Sprint(got) != fmt.Sprint(want) || e != wantError {
			t.Fatalf("%s of %v: %v, %d, but it is %v, %d", name, b, got, e, want, wantError)
		}
	}
	right(t, "Check", lost.Check(b))
	not := api.OK
	var first []api.TrainLeg
	if len(l) == 0 {
		not = api.ErrLostFalse
	} else {
		first = m.journeys[l[0].journey]
	}
	n, e := lost.Ways(b)
	same("Ways", n, ways(l), e, api.OK)
	legs, e := lost.First(b)
	same("First", legs, first, e, not)
	wrong, e := lost.Wrong(b)
	same("Wrong", wrong, m.wrong(), e, api.OK)
	for train := range b.Table.Trains {
		var want api.Span
		if len(l) > 0 {
			want = m.lateIn(l, train)
		}
		s, e := lost.Late(b, train)
		same("Late", s, want, e, not)
	}
	for _, minute := range minutes {
		stations, trains, e := lost.Where(b, minute)
		wantStations, wantTrains := m.where(l, minute)
		same("Where", fmt.Sprint(minute, stations, trains), fmt.Sprint(minute, wantStations, wantTrains), e, not)
		want, wantError := m.ask(l, minute)
		station, e := lost.Ask(b, minute)
		same("Ask", fmt.Sprint(minute, station), fmt.Sprint(minute, want), e, wantError)
	}
	can := map[int]bool{}
	for _, x := range l {
		can[x.journey] = true
	}
	for i, legs := range m.journeys {
		if i < 40 || i%37 == 0 {
			is, e := lost.IsWay(b, legs)
			same("IsWay", fmt.Sprint(legs, is), fmt.Sprint(legs, can[i]), e, api.OK)
		}
	}
}

// stage is where and when all happens: so many minutes from a first one on.
type stage struct{ stations, trains, stops, first, minutes, late int }

// someBook is one without sights.
func someBook(r *rand.Rand, s stage) api.LostBook {
	b := api.LostBook{Legs: 2 - r.IntN(3)*r.IntN(2), Table: api.TrainTable{Offices: make([][]api.Span, s.stations), Load: r.IntN(4) * r.IntN(2)}}
	b.From, b.At = r.IntN(s.stations), min(2879, s.first+r.IntN(1+s.minutes/4))
	for range s.trains {
		least := r.IntN(s.late + 1)
		x := runs(least, least+r.IntN(s.late-least+1))
		stops := 2 + r.IntN(s.stops-1)
		ends := r.Perm(s.minutes)[:2*stops]
		slices.Sort(ends)
		for i := range stops {
			arrive := s.first + ends[2*i]
			x.Stops = append(x.Stops, stop(r.IntN(s.stations), arrive, arrive+r.IntN(ends[2*i+1]-ends[2*i]+1)))
		}
		b.Table.Trains = append(b.Table.Trains, x)
	}
	return b
}

// small is a stage of which all can be counted, in the middle, at the beginning or at the end of all minutes.
func small(r *rand.Rand) stage {
	minutes := 12 + r.IntN(28)
	return stage{2 + r.IntN(3) - r.IntN(8)/7, 1 + r.IntN(4), 2 + r.IntN(2), []int{0, 500, 2880 - minutes}[r.IntN(3)], minutes, r.IntN(5)}
}

// someSight is one that is right in a truth.
func (m model) someSight(r *rand.Rand, x truth, last int) api.LostSight {
	minute := m.At + r.IntN(last-m.At+1)
	is := m.spot(x, minute)
	switch r.IntN(4) {
	case 0, 1:
		return api.LostSight{Guard: is.guard, Who: is.who, Minute: minute, Seen: true}
	case 2:
		who := r.IntN(len(m.Table.Offices))
		return api.LostSight{Who: who, Minute: minute, Seen: is == spot{false, who}}
	}
	who := r.IntN(len(m.Table.Trains))
	return api.LostSight{Guard: true, Who: who, Minute: minute, Seen: is == spot{true, who}}
}

// happens is what can truly happen; mostly the box goes by several trains, if it can.
func (m model) happens(r *rand.Rand) (x truth) {
	for range 1 + r.IntN(40) {
		x = m.truths[r.IntN(len(m.truths))]
		if len(m.journeys[x.journey]) == 2 {
			break
		}
	}
	return x
}

// lostBox is a book that is true, with the journey of a box, and by how much trains were late.
func lostBox(r *rand.Rand) (b api.LostBook, l []api.TrainLeg, d delays) {
	s := small(r)
	m := modelOf(someBook(r, s), true)
	x := m.happens(r)
	for range r.IntN(6) {
		m.Sights = append(m.Sights, m.someSight(r, x, s.first+s.minutes+3))
	}
	return m.LostBook, m.journeys[x.journey], x.late
}

// tear lets some sights be wrong, perhaps.
func tear(r *rand.Rand, b *api.LostBook) {
	for i := range b.Sights {
		switch r.IntN(6) {
		case 0:
			b.Sights[i].Seen = !b.Sights[i].Seen
		case 1:
			b.Sights[i].Minute = b.At + r.IntN(30)
		}
	}
}

// P10.1 to P10.6: all is as all truths tell that there are.
func TestAllTruths(t *testing.T) {
	r := rand.New(rand.NewPCG(103, 1))
	longest, wrongs, asks := map[int]int{}, map[int]int{}, map[int]int{}
	for range 6000 {
		s := small(r)
		m := modelOf(someBook(r, s), true)
		x := m.happens(r)
		for range r.IntN(7) {
			m.Sights = append(m.Sights, m.someSight(r, x, s.first+s.minutes+5))
		}
		if r.IntN(2) == 0 {
			tear(r, &m.LostBook)
		}
		asked := []int{m.At, 2999, m.At + 1}
		for range 4 {
			asked = append(asked, m.At+r.IntN(s.minutes))
		}
		compare(t, m, asked...)
		if l, e := lost.First(m.LostBook); e == api.OK {
			longest[len(l)]++
		}
		wrong, e := lost.Wrong(m.LostBook)
		right(t, "Wrong", e)
		wrongs[len(wrong)]++
		if station, e := lost.Ask(m.LostBook, asked[4]); e == api.OK {
			asks[station]++
		}
	}
	for n := range 3 {
		if longest[n] < 50 || wrongs[n] < 100 {
			t.Errorf("%d times the first journey had so many legs, %d times so many sights were wrong: %d", longest[n], wrongs[n], n)
		}
	}
	for station := range 4 {
		if asks[station] < 10 {
			t.Errorf("%d times the station %d is to be asked", asks[station], station)
		}
	}
}

// P10.1 to P10.6: also if trains are as late as can be, on all of their stops.
func TestLateTrains(t *testing.T) {
	r := rand.New(rand.NewPCG(104, 1))
	for range 12 {
		s := stage{3, 3, 2 + r.IntN(2), r.IntN(2) * 2700, 160, 90}
		b := someBook(r, s)
		for i := range b.Table.Trains {
			b.Table.Trains[i].Late = span(r.IntN(30), 60+r.IntN(31))
		}
		b.Table.Load = r.IntN(61)
		m := modelOf(b, false)
		x := m.happens(r)
		for range 1 + r.IntN(4) {
			m.Sights = append(m.Sights, m.someSight(r, x, s.first+250))
		}
		compare(t, m, m.At+r.IntN(120), m.At+120+r.IntN(100))
	}
}

// P10.1: each list of legs is a journey, or not.
func TestAllLists(t *testing.T) {
	r := rand.New(rand.NewPCG(105, 1))
	seen := map[api.Errno]int{}
	for range 300 {
		b := someBook(r, small(r))
		all := journeysOf(b)
		for range 60 {
			l := slices.Clone(all[r.IntN(len(all))])
			for i := range l {
				if r.IntN(3) == 0 {
					l[i] = leg(r.IntN(len(b.Table.Trains)+1), r.IntN(4)-1, r.IntN(5))
				}
			}
			want := api.ErrLostAsk
			if slices.ContainsFunc(all, func(x []api.TrainLeg) bool { return slices.Equal(x, l) }) {
				want = api.OK
			}
			seen[want]++
			if _, e := lost.IsWay(b, l); e != want {
				t.Fatalf("IsWay of %v, %v: %d", b, l, e)
			}
		}
	}
	if seen[api.OK] < 1000 || seen[api.ErrLostAsk] < 1000 {
		t.Errorf("%d lists were journeys, %d not", seen[api.OK], seen[api.ErrLostAsk])
	}
}

// P10.8: whatever truly happened is told to be so that it can be.
func TestWhateverHappened(t *testing.T) {
	r := rand.New(rand.NewPCG(106, 1))
	sure := 0
	for range 600 {
		b, l, d := lostBox(r)
		is, e := lost.IsWay(b, l)
		right(t, "IsWay", e)
		n, e := lost.Ways(b)
		right(t, "Ways", e)
		wrong, e := lost.Wrong(b)
		right(t, "Wrong", e)
		if !is || n < 1 || len(wrong) > 0 {
			t.Fatalf("%v of %v cannot be: %d, %v", l, b, n, wrong)
		}
		if _, e := lost.First(b); e != api.OK {
			t.Fatalf("First of %v: %d", b, e)
		}
		for minute := b.At; minute < b.At+40; minute++ {
			stations, trains, e := lost.Where(b, minute)
			right(t, "Where", e)
			x := spotOf(b, l, d, minute)
			told := stations
			if x.guard {
				told = trains
			}
			if !slices.Contains(told, x.who) || !slices.IsSorted(stations) || !slices.IsSorted(trains) {
				t.Fatalf("Where of %v, %d: %v, %v, but it is %v", b, minute, stations, trains, x)
			}
			if len(stations)+len(trains) == 1 {
				sure++
			}
		}
		for train := range b.Table.Trains {
			s, e := lost.Late(b, train)
			right(t, "Late", e)
			if d[train] < s.Low || d[train] > s.High {
				t.Fatalf("Late of %v, %d: %v, but it is %d", b, train, s, d[train])
			}
		}
	}
	if sure < 1000 {
		t.Errorf("%d times it is sure where the box is", sure)
	}
}

// P10.9: a further sight that says what is told lets the book be true; one that says that the box is elsewhere does not.
func TestOneSightThatIsTold(t *testing.T) {
	r := rand.New(rand.NewPCG(107, 1))
	elsewhere := 0
	for range 500 {
		b, _, _ := lostBox(r)
		minute := b.At + r.IntN(40)
		stations, trains, e := lost.Where(b, minute)
		right(t, "Where", e)
		var not []api.LostSight
		try := func(told []int, s api.LostSight) {
			n, e := lost.Ways(with(b, more(s)))
			right(t, "Ways", e)
			if is := slices.Contains(told, s.Who); is != (n > 0) {
				t.Fatalf("Ways of %v with %v: %d, but %v, %v are told", b, s, n, stations, trains)
			} else if !is {
				elsewhere++
			}
			if slices.Contains(told, s.Who) && len(not)+len(b.Sights) < 6 {
				not = append(not, api.LostSight{Guard: s.Guard, Who: s.Who, Minute: s.Minute})
			}
		}
		for station := range b.Table.Offices {
			try(stations, atStation(station, minute))
		}
		for train := range b.Table.Trains {
			try(trains, onTrain(train, minute))
		}
		// Nobody who was told saw it: it was elsewhere.
		if n, e := lost.Ways(with(b, more(not...))); len(not) == len(stations)+len(trains) && (n != 0 || e != api.OK) {
			t.Fatalf("Ways of %v with %v: %d, %d", b, not, n, e)
		}
	}
	if elsewhere < 1000 {
		t.Errorf("%d times the box cannot be there", elsewhere)
	}
}

// P10.10: one sight more leaves no more journeys, and no more places; in which order sights are told changes nothing.
func TestMoreSights(t *testing.T) {
	r := rand.New(rand.NewPCG(108, 1))
	fewer := 0
	for range 500 {
		b, _, _ := lostBox(r)
		minute := b.At + r.IntN(30)
		seen := with(b, more(api.LostSight{Guard: r.IntN(2) == 0, Minute: b.At + r.IntN(30), Seen: r.IntN(2) == 0}))
		n, e := lost.Ways(b)
		right(t, "Ways", e)
		left, e := lost.Ways(seen)
		right(t, "Ways", e)
		if left > n {
			t.Fatalf("Ways of %v: %d, of %v: %d", b, n, seen, left)
		}
		if left < n {
			fewer++
		}
		stations, trains, e := lost.Where(b, minute)
		right(t, "Where", e)
		fewStations, fewTrains, e := lost.Where(seen, minute)
		if e != api.OK && e != api.ErrLostFalse || (e == api.OK) != (left > 0) {
			t.Fatalf("Where of %v: %d", seen, e)
		}
		for _, x := range fewStations {
			if !slices.Contains(stations, x) {
				t.Fatalf("Where of %v, %d: %v, of %v: %v", b, minute, stations, seen, fewStations)
			}
		}
		for _, x := range fewTrains {
			if !slices.Contains(trains, x) {
				t.Fatalf("Where of %v, %d: %v, of %v: %v", b, minute, trains, seen, fewTrains)
			}
		}
		sameInAnyOrder(t, r, seen, minute)
	}
	if fewer < 100 {
		t.Errorf("%d times there were fewer journeys", fewer)
	}
}

// sameInAnyOrder holds a book against one with its sights in another order.
func sameInAnyOrder(t *testing.T, r *rand.Rand, b api.LostBook, minute int) {
	t.Helper()
	other := with(b)
	r.Shuffle(len(b.Sights), func(i, k int) { other.Sights[i], other.Sights[k] = other.Sights[k], other.Sights[i] })
	a := asked{minute: minute, train: r.IntN(len(b.Table.Trains))}
	for _, c := range calls() {
		one, e := c.ask(b, a)
		two, f := c.ask(other, a)
		if c.name == "Wrong" {
			one, two = fmt.Sprint(len(one)), fmt.Sprint(len(two))
		}
		if one != two || e != f {
			t.Fatalf("%s of %v: %s, %d, in another order: %s, %d", c.name, b, one, e, two, f)
		}
	}
}

// P10.11: without the sights that are told the book can be true, without fewer it cannot.
func TestSightsThatMustBeWrong(t *testing.T) {
	r := rand.New(rand.NewPCG(109, 1))
	several := 0
	without := func(b api.LostBook, set int) bool {
		var l []api.LostSight
		for i, s := range b.Sights {
			if set>>i&1 == 0 {
				l = append(l, s)
			}
		}
		n, e := lost.Ways(with(b, sights(l...)))
		right(t, "Ways", e)
		return n > 0
	}
	for range 400 {
		b, _, _ := lostBox(r)
		tear(r, &b)
		wrong, e := lost.Wrong(b)
		right(t, "Wrong", e)
		told := 0
		for i, sight := range wrong {
			if sight < 0 || sight >= len(b.Sights) || i > 0 && sight <= wrong[i-1] {
				t.Fatalf("Wrong of %v: %v", b, wrong)
			}
			told |= 1 << sight
		}
		if !without(b, told) {
			t.Fatalf("Wrong of %v: %v, without which it cannot be true", b, wrong)
		}
		for set := range 1 << len(b.Sights) {
			var l []int
			for i := range b.Sights {
				if set>>i&1 == 1 {
					l = append(l, i)
				}
			}
			sooner := len(l) < len(wrong) || len(l) == len(wrong) && slices.Compare(l, wrong) < 0
			if sooner && without(b, set) {
				t.Fatalf("Wrong of %v: %v, but without %v it can be true", b, wrong, l)
			}
		}
		if len(wrong) > 1 {
			several++
		}
	}
	if several < 20 {
		t.Errorf("%d times several sights must be wrong", several)
	}
}

// P10.12: whatever the office answers that is asked, no more journeys are left than at the worst of any other one.
func TestTheOfficeToAsk(t *testing.T) {
	r := rand.New(rand.NewPCG(110, 1))
	better, none := 0, 0
	leaves := func(b api.LostBook, station, minute int) (worst int) {
		for _, answer := range []api.LostSight{atStation(station, minute), notAt(station, minute)} {
			n, e := lost.Ways(with(b, more(answer)))
			right(t, "Ways", e)
			worst = max(worst, n)
		}
		return worst
	}
	for range 800 {
		b, _, _ := lostBox(r)
		minute := b.At + r.IntN(40)
		station, e := lost.Ask(b, minute)
		n, f := lost.Ways(b)
		right(t, "Ways", f)
		if e == api.ErrNone && n == 1 {
			none++
			continue
		}
		if e != api.OK || n == 1 {
			t.Fatalf("Ask of %v, %d: %d, %d, but %d journeys can be", b, minute, station, e, n)
		}
		best := leaves(b, station, minute)
		for other := range b.Table.Offices {
			n := leaves(b, other, minute)
			if n < best || n == best && other < station {
				t.Fatalf("Ask of %v, %d: %d leaves %d, but %d leaves %d", b, minute, station, best, other, n)
			}
			if n > best {
				better++
			}
		}
	}
	if better < 100 || none < 100 {
		t.Errorf("%d times another station leaves more journeys, %d times there is just one", better, none)
	}
}

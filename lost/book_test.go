package lost_test

import (
	"fmt"
	"math"
	"math/rand/v2"
	"reflect"
	"slices"
	"testing"

	"bioscope/api"
	"bioscope/lost"
)

func span(low, high int) api.Span { return api.Span{Low: low, High: high} }

func stop(station, arrive, leave int) api.TrainStop {
	return api.TrainStop{Station: station, Arrive: arrive, Leave: leave}
}

// runs is a train that is late by no less than low, and no more than high.
func runs(low, high int, stops ...api.TrainStop) api.TrainTrain {
	return api.TrainTrain{Stops: stops, Late: span(low, high)}
}

func leg(train, from, to int) api.TrainLeg { return api.TrainLeg{Train: train, From: from, To: to} }

func journey(l ...api.TrainLeg) []api.TrainLeg { return l }

// atStation and notAt are what an office says, onTrain and notOn what a guard says.
func atStation(who, minute int) api.LostSight {
	return api.LostSight{Who: who, Minute: minute, Seen: true}
}

func notAt(who, minute int) api.LostSight { return api.LostSight{Who: who, Minute: minute} }

func onTrain(who, minute int) api.LostSight {
	return api.LostSight{Guard: true, Who: who, Minute: minute, Seen: true}
}

func notOn(who, minute int) api.LostSight {
	return api.LostSight{Guard: true, Who: who, Minute: minute}
}

// change is one of a book.
type change func(b *api.LostBook)

// example is the book of the chapter's examples without its sights, with some changes.
func example(changes ...change) api.LostBook {
	return with(api.LostBook{
		Table: api.TrainTable{
			Load:    10,
			Offices: [][]api.Span{{span(480, 1200)}, {span(480, 720), span(780, 1140)}, {span(420, 1320)}},
			Trains: []api.TrainTrain{
				runs(0, 20, stop(0, 500, 500), stop(1, 560, 565), stop(2, 640, 640)),
				runs(0, 5, stop(1, 590, 600), stop(2, 650, 650)),
				runs(0, 60, stop(0, 700, 700), stop(2, 800, 800)),
				runs(0, 10, stop(0, 690, 690), stop(1, 705, 710)),
			},
		},
		At: 480, Legs: 2,
	}, changes...)
}

// sighted is that book with some sights; gone and both are those of the examples, one and both of them.
func sighted(l ...api.LostSight) api.LostBook { return example(sights(l...)) }

func gone(more ...api.LostSight) api.LostBook {
	return sighted(slices.Concat([]api.LostSight{notAt(0, 600)}, more)...)
}

func both(more ...api.LostSight) api.LostBook {
	return gone(slices.Concat([]api.LostSight{notOn(1, 620)}, more)...)
}

// torn cannot be true.
func torn() api.LostBook { return gone(atStation(0, 650)) }

// with is a copy of a book after some changes, that shares no memory with it.
func with(b api.LostBook, changes ...change) api.LostBook {
	b.Sights, b.Table.Offices, b.Table.Trains = slices.Clone(b.Sights), slices.Clone(b.Table.Offices), slices.Clone(b.Table.Trains)
	for i, open := range b.Table.Offices {
		b.Table.Offices[i] = slices.Clone(open)
	}
	for i, x := range b.Table.Trains {
		b.Table.Trains[i].Stops = slices.Clone(x.Stops)
	}
	for _, c := range changes {
		c(&b)
	}
	return b
}

func from(station int) change { return func(b *api.LostBook) { b.From = station } }
func at(minute int) change    { return func(b *api.LostBook) { b.At = minute } }
func legs(n int) change       { return func(b *api.LostBook) { b.Legs = n } }
func load(n int) change       { return func(b *api.LostBook) { b.Table.Load = n } }
func late(train, low, high int) change {
	return func(b *api.LostBook) { b.Table.Trains[train].Late = span(low, high) }
}
func sights(l ...api.LostSight) change {
	return func(b *api.LostBook) { b.Sights = slices.Clone(l) }
}

// more lets something else be told, behind the other sights.
func more(l ...api.LostSight) change {
	return func(b *api.LostBook) { b.Sights = append(b.Sights, l...) }
}

// offices lets there be so many stations, the offices of which are never open.
func offices(n int) change { return func(b *api.LostBook) { b.Table.Offices = make([][]api.Span, n) } }

// trains lets there be these trains alone.
func trains(l ...api.TrainTrain) change { return func(b *api.LostBook) { b.Table.Trains = l } }

// wrongBooks are books that are not valid, each for a reason of its own.
func wrongBooks() map[string]api.LostBook {
	all := map[string]api.LostBook{"nothing": {}}
	six := slices.Repeat([]api.LostSight{notOn(1, 700)}, 6)
	for name, c := range map[string]change{
		"no offices": offices(0), "seven offices": offices(7), "a Load of 61": load(61), "a Load below 0": load(-1), "a Late above 90": late(0, 0, 91), "a Late inverted": late(1, 6, 5), "seven trains": trains(slices.Repeat(example().Table.Trains[:1], 7)...), "a train of one stop": trains(runs(0, 0, stop(0, 500, 500))), "a stop at no station": trains(runs(0, 0, stop(0, 500, 500), stop(3, 510, 510))), "no time between stops": trains(runs(0, 0, stop(0, 500, 500), stop(1, 500, 510))), "an office that opens too late": func(b *api.LostBook) { b.Table.Offices[1] = []api.Span{span(2880, 2880)} },
		"a From below 0": from(-1), "a From of 3": from(3), "the most From": from(math.MaxInt), "the least From": from(math.MinInt),
		"an At below 0": at(-1), "an At of 2880": at(2880), "the most At": at(math.MaxInt), "the least At": at(math.MinInt),
		"Legs below 0": legs(-1), "three Legs": legs(3), "the most Legs": legs(math.MaxInt), "the least Legs": legs(math.MinInt),
		"seven Sights": more(append(six, notOn(1, 700))...), "very many Sights": more(slices.Repeat(six, 1<<14)...),
		"an office below 0": more(atStation(-1, 600)), "an office of 3": more(notAt(3, 600)), "an office as there is a train": sights(notAt(0, 600), atStation(3, 600)), "the most office": more(atStation(math.MaxInt, 600)), "the least office": more(notAt(math.MinInt, 600)),
		"a guard below 0": more(onTrain(-1, 600)), "a guard of 4": more(notOn(4, 600)), "the most guard": more(onTrain(math.MaxInt, 600)), "the least guard": more(notOn(math.MinInt, 600)), "a guard without trains": func(b *api.LostBook) { trains()(b); more(notOn(0, 600))(b) }, "a guard as there is a station": func(b *api.LostBook) { trains(b.Table.Trains[:2]...)(b); more(notOn(2, 600))(b) },
		"a Minute too soon": more(notAt(0, 479)), "a guard too soon": more(notOn(0, 479)), "a Minute of 3000": more(notAt(0, 3000)), "a guard of a Minute of 3000": more(notOn(0, 3000)), "the most Minute": more(notAt(0, math.MaxInt)), "the least Minute": more(notOn(0, math.MinInt)), "the last one of six": more(append(slices.Clone(six[:5]), notAt(0, 479))...), "a Minute before a later At": func(b *api.LostBook) { at(601)(b); more(notAt(0, 600))(b) },
	} {
		all[name] = example(c)
	}
	return all
}

// P10.1: what is just valid.
func TestCheckLimits(t *testing.T) {
	six := slices.Repeat([]api.LostSight{notOn(1, 700)}, 6)
	for i, x := range []api.LostBook{
		example(), both(), torn(), example(from(1)), example(from(2)), example(at(0)), example(at(2879)), example(legs(0)), example(legs(1)), sighted(six...),
		sighted(atStation(0, 480)), sighted(notAt(2, 2999)), sighted(onTrain(0, 480)), sighted(notOn(3, 2999)), example(at(2879), sights(atStation(0, 2879), notOn(3, 2999))), example(at(600), sights(notAt(0, 600))),
		example(trains()), example(trains(), sights(atStation(2, 600))), example(trains(), offices(1)), example(trains(), offices(6), from(5), sights(notAt(5, 600))), example(trains(slices.Repeat(example().Table.Trains[:1], 6)...), sights(notOn(5, 600))), example(load(60)), example(load(0)), example(late(0, 0, 90)), example(offices(3)),
	} {
		if e := lost.Check(x); e != api.OK {
			t.Errorf("Check of the book %d: %d", i, e)
		}
	}
}

// asked is what the functions are asked, each one as much of it as it takes.
type asked struct {
	legs          []api.TrainLeg
	minute, train int
}

// call is a function that can be asked, with its results as a text, and those that it has with an error; whether what it takes can be wrong, a minute or a train; and what it returns if the book cannot be true.
type call struct {
	name, zero    string
	minute, train bool
	not           api.Errno
	ask           func(b api.LostBook, a asked) (string, api.Errno)
}

// calls are all functions but Check.
func calls() []call {
	text := func(x any, e api.Errno) (string, api.Errno) { return fmt.Sprint(x), e }
	return []call{
		{"IsWay", "false", false, false, api.OK, func(b api.LostBook, a asked) (string, api.Errno) { return text(lost.IsWay(b, a.legs)) }},
		{"Ways", "0", false, false, api.OK, func(b api.LostBook, a asked) (string, api.Errno) { return text(lost.Ways(b)) }},
		{"First", "[]", false, false, api.ErrLostFalse, func(b api.LostBook, a asked) (string, api.Errno) { return text(lost.First(b)) }},
		{"Where", "[] []", true, false, api.ErrLostFalse, func(b api.LostBook, a asked) (string, api.Errno) {
			stations, trains, e := lost.Where(b, a.minute)
			return fmt.Sprint(stations, trains), e
		}},
		{"Late", "{0 0}", false, true, api.ErrLostFalse, func(b api.LostBook, a asked) (string, api.Errno) { return text(lost.Late(b, a.train)) }},
		{"Wrong", "[]", false, false, api.OK, func(b api.LostBook, a asked) (string, api.Errno) { return text(lost.Wrong(b)) }},
		{"Ask", "0", true, false, api.ErrLostFalse, func(b api.LostBook, a asked) (string, api.Errno) { return text(lost.Ask(b, a.minute)) }},
	}
}

// P10.1: Check, and that all functions return its error first.
func TestCheck(t *testing.T) {
	for name, x := range wrongBooks() {
		if e := lost.Check(x); e != api.ErrLost {
			t.Errorf("Check of a book with %s: %d", name, e)
		}
		for _, c := range calls() {
			for _, a := range []asked{{nil, 700, 0}, {journey(leg(0, 0, 1)), 700, 3}, {journey(leg(9, 0, 1)), -1, -1}, {make([]api.TrainLeg, 3), 3000, 4}, {}} {
				if got, e := c.ask(x, a); got != c.zero || e != api.ErrLost {
					t.Errorf("%s of a book with %s: %s, %d", c.name, name, got, e)
				}
			}
		}
	}
}

// P10.1, P10.3, P10.4, P10.6: what cannot be asked, also if the book cannot be true, or just one journey can be.
func TestWrongQuestions(t *testing.T) {
	books := []api.LostBook{example(), both(), torn(), example(legs(0)), sighted(atStation(0, 2000))}
	for _, c := range calls() {
		for _, n := range []int{-1, 4, 479, 3000, math.MaxInt, math.MinInt} {
			for i, b := range books {
				got, e := c.ask(b, asked{minute: n, train: n})
				if wrong := c.minute || c.train; wrong != (e == api.ErrLostAsk) || wrong && got != c.zero {
					t.Errorf("%s of %d of the book %d: %s, %d", c.name, n, i, got, e)
				}
			}
		}
		for _, minute := range []int{480, 481, 2879, 2880, 2999} {
			for train := range 4 {
				if _, e := c.ask(example(), asked{minute: minute, train: train}); e != api.OK {
					t.Errorf("%s of the minute %d, the train %d: %d", c.name, minute, train, e)
				}
			}
		}
	}
	if _, e := lost.Late(example(trains()), 0); e != api.ErrLostAsk {
		t.Errorf("Late without trains: %d", e)
	}
	if _, _, e := lost.Where(example(at(0)), 0); e != api.OK {
		t.Errorf("Where at 0: %d", e)
	}
	if _, e := lost.Ask(example(at(0)), 0); e != api.OK {
		t.Errorf("Ask at 0: %d", e)
	}
}

// P10.1 to P10.6: what is told if the book cannot be true.
func TestNoTruth(t *testing.T) {
	for name, b := range map[string]api.LostBook{
		"a box that left and did not": torn(), "a box in two places": sighted(atStation(0, 700), atStation(1, 700)), "a box at a station and on a train": sighted(onTrain(0, 540), atStation(0, 540)), "a box on a train before it leaves": sighted(onTrain(2, 699)), "a box on a train that arrived": sighted(onTrain(0, 660)), "a box nowhere": sighted(notAt(0, 480)), "a box that cannot be back": sighted(onTrain(0, 540), atStation(0, 900)), "a box without trains": example(trains(), sights(atStation(1, 900))),
	} {
		for _, c := range calls() {
			if c.name == "Wrong" {
				continue // always has a list
			}
			for minute := 480; minute < 3000; minute += 100 {
				if c.train && len(b.Table.Trains) == 0 {
					continue
				}
				if got, e := c.ask(b, asked{minute: minute}); got != c.zero || e != c.not {
					t.Errorf("%s with %s: %s, %d", c.name, name, got, e)
				}
			}
		}
	}
}

// some is a number that is from least to most, or any other one.
func some(r *rand.Rand, least, most int) int {
	odd := []int{math.MinInt, math.MinInt + 1, math.MinInt32, -1, 0, 1, 2, 3, 4, 5, 6, 7, 60, 61, 90, 91, 479, 2879, 2880, 2999, 3000, math.MaxInt32, math.MaxInt - 1, math.MaxInt}
	if r.IntN(15) == 0 {
		return odd[r.IntN(len(odd))]
	}
	return least + r.IntN(most-least+1)
}

// anyBook is that of the examples with a few numbers that can be any at all.
func anyBook(r *rand.Rand) api.LostBook {
	return example(func(b *api.LostBook) {
		for range r.IntN(4) {
			more(api.LostSight{Guard: r.IntN(2) == 0, Who: r.IntN(3), Minute: 480 + r.IntN(400), Seen: r.IntN(3) == 0})(b)
		}
		all := []*int{&b.From, &b.At, &b.Legs, &b.Table.Load}
		for i := range b.Table.Trains {
			x := &b.Table.Trains[i]
			all = append(all, &x.Late.Low, &x.Late.High)
			for k := range x.Stops {
				all = append(all, &x.Stops[k].Station, &x.Stops[k].Arrive, &x.Stops[k].Leave)
			}
		}
		for i := range b.Sights {
			all = append(all, &b.Sights[i].Who, &b.Sights[i].Minute)
		}
		for _, n := range all {
			if r.IntN(80) == 0 {
				*n = some(r, 0, 1+r.IntN(900))
			}
		}
	})
}

// P1: no function panics or goes on for ever, and with an error all else is zero.
func TestAnyArguments(t *testing.T) {
	r := rand.New(rand.NewPCG(101, 1))
	seen := map[string]bool{}
	for range 8000 {
		x, a := anyBook(r), asked{minute: some(r, 480, 900), train: some(r, 0, 3)}
		for range r.IntN(3) {
			a.legs = append(a.legs, leg(some(r, 0, 3), some(r, 0, 1), some(r, 0, 2)))
		}
		valid := lost.Check(x)
		for _, c := range calls() {
			got, e := c.ask(x, a)
			seen[fmt.Sprint(c.name, e)] = true
			if e != api.OK && got != c.zero || valid != api.OK && e != valid || valid == api.OK && e == api.ErrLost {
				t.Fatalf("%s of %v, %v: %s, %d", c.name, x, a, got, e)
			}
		}
	}
	for _, c := range calls() {
		want := []api.Errno{api.OK, api.ErrLost, c.not}
		if c.minute || c.train || c.name == "IsWay" {
			want = append(want, api.ErrLostAsk)
		}
		if c.name == "Ask" {
			want = append(want, api.ErrNone)
		}
		for _, e := range want {
			if !seen[fmt.Sprint(c.name, e)] {
				t.Errorf("there was no %s with %d", c.name, e)
			}
		}
	}
}

// P1: what is asked may be as long as it likes, and as much may be seen as there can be.
func TestLongArguments(t *testing.T) {
	for _, long := range [][]api.TrainLeg{make([]api.TrainLeg, 1<<20), slices.Repeat(journey(leg(0, 0, 1), leg(1, 0, 1)), 1<<19), slices.Repeat(journey(leg(math.MaxInt, math.MinInt, math.MaxInt)), 2)} {
		if is, e := lost.IsWay(example(), long); is || e != api.ErrLostAsk {
			t.Errorf("IsWay of a long list: %v, %d", is, e)
		}
	}
	var all []api.TrainTrain
	for i := range 6 {
		x := runs(0, 90)
		for k := range 5 {
			x.Stops = append(x.Stops, stop(0, 9*k+3*i, 9*k+3*i))
		}
		all = append(all, x)
	}
	b := example(trains(all...), at(0), load(0))
	if n, e := lost.Ways(b); n != 1+60+60*50 || e != api.OK {
		t.Errorf("Ways of most trains: %d, %d", n, e)
	}
	for i := range 6 {
		more(notAt(2, 20+i*13))(&b)
	}
	if n, e := lost.Ways(b); n != 1+60+60*50 || e != api.OK {
		t.Errorf("Ways of most trains and sights: %d, %d", n, e)
	}
	if l, e := lost.Wrong(with(b, func(b *api.LostBook) { b.Sights[2].Seen = true; b.Sights[5].Seen = true })); !slices.Equal(l, []int{2, 5}) || e != api.OK {
		t.Errorf("Wrong of most trains and sights: %v, %d", l, e)
	}
}

// P2: the same arguments have the same result, whatever was called before, and in whatever memory they are; also R3, that a nil list is like an empty one.
func TestSameResults(t *testing.T) {
	r := rand.New(rand.NewPCG(102, 1))
	var books []api.LostBook
	var questions []asked
	for range 100 {
		x, l, _ := lostBox(r)
		books = append(books, x)
		questions = append(questions, asked{l, x.At + r.IntN(30), r.IntN(2)})
	}
	before := map[string]string{}
	for round := range 3 {
		for _, i := range r.Perm(len(books)) {
			for _, c := range calls() {
				a := questions[i]
				a.legs = slices.Clone(a.legs)
				got, e := c.ask(with(books[i]), a)
				key, text := fmt.Sprint(c.name, i), fmt.Sprint(got, e)
				if round > 0 && before[key] != text {
					t.Errorf("%s of the book %d: %s, and then %s", c.name, i, before[key], text)
				}
				before[key] = text
			}
		}
	}
	empty := example(offices(3), func(b *api.LostBook) {
		b.Table.Trains, b.Sights, b.Table.Offices[1] = []api.TrainTrain{}, []api.LostSight{}, []api.Span{}
	})
	for _, c := range calls() {
		one, e := c.ask(example(trains(), offices(3)), asked{minute: 500})
		two, f := c.ask(empty, asked{legs: journey(), minute: 500})
		if one != two || e != f {
			t.Errorf("%s of nil lists: %s, %d; of empty ones: %s, %d", c.name, one, e, two, f)
		}
		one, e = c.ask(example(), asked{minute: 500})
		two, f = c.ask(example(), asked{legs: []api.TrainLeg{}, minute: 500})
		if one != two || e != f {
			t.Errorf("%s of a nil list: %s, %d; of an empty one: %s, %d", c.name, one, e, two, f)
		}
	}
}

// P10.7: arguments are only read, what lies behind a list among them.
func TestArgumentsAreRead(t *testing.T) {
	for _, x := range []api.LostBook{both(), torn(), example(), example(from(3))} {
		b := with(x)
		many, stops := len(b.Sights), b.Table.Trains[0].Stops
		b.Sights = append(b.Sights, onTrain(77, 78))[:many]
		b.Table.Trains = append(b.Table.Trains, runs(7, 8))[:4]
		b.Table.Trains[0].Stops = append(stops, stop(7, 7, 7))[:3]
		a := asked{append(journey(leg(0, 0, 1), leg(1, 0, 1)), leg(7, 7, 7))[:2], 700, 0}
		old := with(b, func(o *api.LostBook) {
			o.Sights, o.Table.Trains = slices.Clone(b.Sights[:many+1]), slices.Clone(b.Table.Trains[:5])
			o.Table.Trains[0].Stops = slices.Clone(b.Table.Trains[0].Stops[:4])
		})
		for _, c := range append(calls(), call{name: "Check", ask: func(b api.LostBook, a asked) (string, api.Errno) { return "", lost.Check(b) }}) {
			c.ask(b, a)
			now := b
			now.Sights, now.Table.Trains = b.Sights[:many+1], slices.Clone(b.Table.Trains[:5])
			now.Table.Trains[0].Stops = now.Table.Trains[0].Stops[:4]
			if !reflect.DeepEqual(now, old) || !slices.Equal(a.legs[:3], journey(leg(0, 0, 1), leg(1, 0, 1), leg(7, 7, 7))) {
				t.Errorf("%s changes its arguments: %v, %v", c.name, now, a)
			}
		}
	}
}

// P10.7: results are new memory: whoever writes on them changes no other ones.
func TestResultsAreNew(t *testing.T) {
	b := sighted(onTrain(1, 610))
	for range 2 {
		l, e := lost.First(b)
		right(t, "First", e)
		if !slices.Equal(l, journey(leg(0, 0, 1), leg(1, 0, 1))) {
			t.Errorf("First: %v", l)
		}
		clear(l[:cap(l)])
		stations, trains, e := lost.Where(example(), 705)
		right(t, "Where", e)
		_ = append(stations, 77)
		if !slices.Equal(stations, []int{0, 1, 2}) || !slices.Equal(trains, []int{2, 3}) {
			t.Errorf("Where: %v, %v", stations, trains)
		}
		clear(stations[:cap(stations)])
		if !slices.Equal(trains, []int{2, 3}) {
			t.Errorf("Where tells %v by what it told of stations", trains)
		}
		clear(trains[:cap(trains)])
		wrong, e := lost.Wrong(sighted(atStation(0, 650), atStation(1, 650), atStation(2, 650)))
		right(t, "Wrong", e)
		if !slices.Equal(wrong, []int{0, 1}) {
			t.Errorf("Wrong: %v", wrong)
		}
		clear(wrong[:cap(wrong)])
	}
}

// right ends the test if there is an error.
func right(t *testing.T, name string, e api.Errno) {
	t.Helper()
	if e != api.OK {
		t.Fatalf("%s: %d", name, e)
	}
}

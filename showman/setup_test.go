package showman_test

import (
	"fmt"
	"math"
	"reflect"
	"slices"
	"strings"
	"testing"

	"bioscope/api"
	"bioscope/showman"
)

func span(low, high int) api.Span { return api.Span{Low: low, High: high} }

func stop(station, arrive, leave int) api.TrainStop {
	return api.TrainStop{Station: station, Arrive: arrive, Leave: leave}
}

func reelOf(first, last, feet api.Span) api.ReelReel {
	return api.ReelReel{First: first, Last: last, Feet: feet}
}

func paper(kind, first int) api.LicencePaper { return api.LicencePaper{Kind: kind, First: first} }

// change is one of a setup.
type change func(s *api.ShowmanSetup)

// example is the setup of the chapter's examples, with some changes, in memory of its own.
func example(changes ...change) api.ShowmanSetup {
	s := api.ShowmanSetup{
		Films: []api.ReelFilm{
			{
				Reels: []api.ReelReel{reelOf(span(10, 12), span(20, 20), span(900, 900)), reelOf(span(1, 1), span(9, 11), span(950, 1000)), reelOf(span(20, 22), span(20, 30), span(800, 820)), reelOf(span(20, 31), span(20, 40), span(700, 700))},
				Turn:  span(6, 8), Tear: span(1, 3), Spool: 2000,
			},
			{Reels: []api.ReelReel{reelOf(span(1, 1), span(2, 2), span(500, 500))}, Turn: span(5, 5), Spool: 400},
		},
		Names: []string{"moon", "race"},
		Table: api.TrainTable{
			Load:    10,
			Offices: [][]api.Span{{span(480, 1200)}, {span(480, 720), span(780, 1140)}, {span(420, 1320)}},
			Trains: []api.TrainTrain{
				{Stops: []api.TrainStop{stop(0, 500, 500), stop(1, 560, 565), stop(2, 640, 640)}, Late: span(0, 20)},
				{Stops: []api.TrainStop{stop(1, 590, 600), stop(2, 650, 650)}, Late: span(0, 5)},
				{Stops: []api.TrainStop{stop(0, 700, 700), stop(2, 800, 800)}, Late: span(0, 60)},
				{Stops: []api.TrainStop{stop(0, 690, 690), stop(1, 705, 710)}, Late: span(0, 10)},
			},
		},
		Stations: []string{"ayr", "bow", "cam"},
		Town: api.LicenceTown{
			Kinds: []api.LicenceKind{{Days: 1, Fee: 5, Notice: 2}, {Days: 7, Fee: 20, Notice: 10}},
			Pause: 1, Barred: []api.Span{span(105, 106)}, Forbidden: 8, Close: 1350,
			Held: []api.LicencePaper{paper(1, 100)},
		},
		Prices: []int{10, 25}, Free: []api.Span{span(0, 2), span(0, 0)},
		Err: 5, Duty: 10, Share: 50, Guarantee: 300, Purse: 40,
	}
	for _, c := range changes {
		c(&s)
	}
	return s
}

func names(l ...string) change    { return func(s *api.ShowmanSetup) { s.Names = l } }
func stations(l ...string) change { return func(s *api.ShowmanSetup) { s.Stations = l } }
func purse(n int) change          { return func(s *api.ShowmanSetup) { s.Purse = n } }
func wrong(n int) change          { return func(s *api.ShowmanSetup) { s.Err = n } }
func duty(n int) change           { return func(s *api.ShowmanSetup) { s.Duty = n } }
func share(n int) change          { return func(s *api.ShowmanSetup) { s.Share = n } }
func guarantee(n int) change      { return func(s *api.ShowmanSetup) { s.Guarantee = n } }
func forbidden(n int) change      { return func(s *api.ShowmanSetup) { s.Town.Forbidden = n } }
func held(l ...api.LicencePaper) change {
	return func(s *api.ShowmanSetup) { s.Town.Held = l }
}
func kinds(l ...api.LicenceKind) change {
	return func(s *api.ShowmanSetup) { s.Town.Kinds = l }
}
func films(l ...api.ReelFilm) change { return func(s *api.ShowmanSetup) { s.Films = l } }

// rolls lets there be a roll for each price, and no free tickets.
func rolls(prices ...int) change {
	return func(s *api.ShowmanSetup) { s.Prices, s.Free = prices, make([]api.Span, len(prices)) }
}

// simpleFilm has one reel.
func simpleFilm(feet, turn, tear, spool int) api.ReelFilm {
	return api.ReelFilm{Reels: []api.ReelReel{reelOf(span(1, 1), span(2, 2), span(feet, feet))}, Turn: span(turn, turn), Tear: span(tear, tear), Spool: spool}
}

// manyFilms lets there be so many films, all of which have names.
func manyFilms(n int) change {
	return func(s *api.ShowmanSetup) {
		s.Films, s.Names = slices.Repeat(s.Films[1:2], n), nil
		for i := range n {
			s.Names = append(s.Names, fmt.Sprint("f", i))
		}
	}
}

// manyStations lets there be so many stations, all of which have names, and no trains.
func manyStations(n int) change {
	return func(s *api.ShowmanSetup) {
		s.Table.Offices, s.Table.Trains, s.Stations = make([][]api.Span, n), nil, nil
		for i := range n {
			s.Stations = append(s.Stations, fmt.Sprint("s", i))
		}
	}
}

// wrongSetups are setups that are not valid, each for a reason of its own.
func wrongSetups() map[string]api.ShowmanSetup {
	all := map[string]api.ShowmanSetup{"nothing": {}}
	for name, c := range map[string]change{
		"no films": manyFilms(0), "five films": manyFilms(5), "very many films": manyFilms(1 << 12),
		"a wrong first film": func(s *api.ShowmanSetup) { s.Films[0].Spool = 0 }, "a wrong last film": func(s *api.ShowmanSetup) { s.Films[1].Reels = nil }, "a film of nothing": func(s *api.ShowmanSetup) { s.Films[1] = api.ReelFilm{} },
		"no names": names(), "a name too few": names("moon"), "a name too many": names("moon", "race", "sea"), "the same name twice": names("moon", "moon"), "an empty name": names("moon", ""), "an empty first name": names("", "race"), "a name of 13 bytes": names("moon", "a234567890123"), "a very long name": names(strings.Repeat("a", 1<<16), "race"), "a digit first": names("1moon", "race"), "a capital letter": names("moon", "raCe"), "a capital letter first": names("Moon", "race"), "a blank": names("mo on", "race"), "a blank behind": names("moon ", "race"), "a line feed": names("moon", "race\n"), "a minus": names("moon", "a-b"), "a byte below a": names("`moon", "race"), "a byte above z": names("moon", "race{"), "a byte below 0": names("moon", "race/"), "a byte above 9": names("moon", "race:"), "a letter of two bytes": names("m\u00f8n", "race"), "a byte 0": names("moon", "race\x00"), "a byte 255": names("moon", "race\xff"), "a byte 127": names("moon\x7f", "race"),
		"the same name of four films": func(s *api.ShowmanSetup) { manyFilms(4)(s); s.Names[3] = s.Names[1] },
		"a wrong table":               func(s *api.ShowmanSetup) { s.Table.Load = 61 }, "no offices": manyStations(0), "seven offices": manyStations(7), "a train to nowhere": func(s *api.ShowmanSetup) { s.Table.Trains[3].Stops[1].Station = 3 },
		"no stations": stations(), "a station too few": stations("ayr", "bow"), "a station too many": stations("ayr", "bow", "cam", "dee"), "the same station twice": stations("ayr", "bow", "ayr"), "an empty station": stations("ayr", "", "cam"), "a station of 13 bytes": stations("a234567890123", "bow", "cam"), "a station with a digit first": stations("ayr", "bow", "0cam"), "a station with a capital letter": stations("ayr", "boW", "cam"), "a station with a blank": stations("ayr", "bo w", "cam"), "the same two of six stations": func(s *api.ShowmanSetup) { manyStations(6)(s); s.Stations[5] = s.Stations[4] },
		"a wrong town": func(s *api.ShowmanSetup) { s.Town.Pause = 21 }, "a town without kinds": kinds(), "licences that do not go together": held(paper(1, 100), paper(0, 107)), "five licences": held(paper(0, 1), paper(0, 3), paper(0, 5), paper(0, 7), paper(0, 9)), "a licence of no kind": held(paper(2, 100)), "a Close of 1440": func(s *api.ShowmanSetup) { s.Town.Close = 1440 },
		"no rolls": rolls(), "five rolls": rolls(1, 2, 3, 4, 5), "very many rolls": rolls(make([]int, 1<<16)...), "a price of 0": rolls(10, 0), "a price of 51": rolls(51, 25), "a price below 0": rolls(10, -1), "the most price": rolls(math.MaxInt, 25), "a Free too few": func(s *api.ShowmanSetup) { s.Free = s.Free[:1] }, "a Free too many": func(s *api.ShowmanSetup) { s.Free = append(s.Free, span(0, 0)) }, "no Free": func(s *api.ShowmanSetup) { s.Free = nil }, "a Free inverted": func(s *api.ShowmanSetup) { s.Free[0] = span(2, 1) }, "a Free of 51": func(s *api.ShowmanSetup) { s.Free[1] = span(50, 51) }, "a Free 16 apart": func(s *api.ShowmanSetup) { s.Free[1] = span(0, 16) }, "a Free below 0": func(s *api.ShowmanSetup) { s.Free[1] = span(-1, 0) },
		"an Err of 201": wrong(201), "an Err below 0": wrong(-1), "a Duty of 101": duty(101), "a Duty below 0": duty(-1), "a Share of 101": share(101), "a Share below 0": share(-1), "a Guarantee of 60001": guarantee(60001), "a Guarantee below 0": guarantee(-1),
		"a Purse of 60001": purse(60001), "a Purse below 0": purse(-1), "the most Purse": purse(math.MaxInt), "the least Purse": purse(math.MinInt),
	} {
		all[name] = example(c)
	}
	return all
}

// P11.1: what is not valid.
func TestWrongSetups(t *testing.T) {
	for name, s := range wrongSetups() {
		if e := showman.Check(s); e != api.ErrShowman {
			t.Errorf("Check with %s: %d", name, e)
		}
		if c, e := showman.New(s); c != nil || e != api.ErrShowman {
			t.Errorf("New with %s: %v, %d", name, c, e)
		}
		for _, file := range []string{"", "day 5\n", "day 5", "today\n", strings.Repeat("x", 60001)} {
			if c, at, e := showman.Open(s, file); c != nil || at != 0 || e != api.ErrShowman {
				t.Errorf("Open with %s: %v, %d, %d", name, c, at, e)
			}
		}
	}
}

// P11.1: what is just valid.
func TestSetupLimits(t *testing.T) {
	for i, s := range []api.ShowmanSetup{
		example(), example(manyFilms(1)), example(manyFilms(4)), example(manyStations(1)), example(manyStations(6)),
		example(names("a", "z")), example(names("a23456789012", "az0189")), example(names("z9", "z99")), example(names("moon", "moo")), example(names("mooo", "moon")), example(stations("a", "a23456789012", "b0")), example(stations("moon", "race", "day")), example(names("day", "purse")),
		example(rolls(1)), example(rolls(50, 50, 50, 50)), example(func(s *api.ShowmanSetup) { s.Free[0], s.Free[1] = span(35, 50), span(0, 15) }), example(wrong(0)), example(wrong(200)), example(duty(0)), example(duty(100)), example(share(0)), example(share(100)), example(guarantee(0)), example(guarantee(60000)), example(purse(0)), example(purse(60000)),
		example(held()), example(held(paper(0, 9), paper(0, 7), paper(0, 5), paper(1, 100))), example(forbidden(65535)), example(forbidden(0)), example(func(s *api.ShowmanSetup) { s.Town.Close = 0 }),
	} {
		if e := showman.Check(s); e != api.OK {
			t.Errorf("Check of the setup %d: %d", i, e)
		}
		if c, e := showman.New(s); c == nil || e != api.OK {
			t.Errorf("New of the setup %d: %v, %d", i, c, e)
		}
		if c, at, e := showman.Open(s, ""); c == nil || at != 0 || e != api.OK {
			t.Errorf("Open of the setup %d: %v, %d, %d", i, c, at, e)
		}
	}
}

// made is a new clerk.
func made(t *testing.T, changes ...change) *showman.Showman {
	t.Helper()
	c, e := showman.New(example(changes...))
	if c == nil || e != api.OK {
		t.Fatalf("New: %v, %d", c, e)
	}
	return c
}

// has is all that a clerk tells of what it has.
type has struct {
	Day, Purse    int
	Shows         []api.ShowmanShow
	Held          []api.LicencePaper
	Tickets, Away []int
	Journal       []string
	File          string
}

func hasOf(c *showman.Showman) has {
	return has{c.Day(), c.Purse(), c.Shows(), c.Held(), c.Tickets(), c.Away(), c.Journal(), c.File()}
}

// isSame compares what clerks have; a nil list and an empty one are the same.
func (h has) isSame(other has) bool {
	return h.Day == other.Day && h.Purse == other.Purse && slices.Equal(h.Shows, other.Shows) && slices.Equal(h.Held, other.Held) && slices.Equal(h.Tickets, other.Tickets) && slices.Equal(h.Away, other.Away) && slices.Equal(h.Journal, other.Journal) && h.File == other.File
}

// P11.1: what a new clerk has.
func TestNew(t *testing.T) {
	for i, x := range []struct {
		c    change
		want has
	}{
		{purse(40), has{Purse: 40, Held: []api.LicencePaper{paper(1, 100)}, Tickets: []int{0, 0}}},
		{purse(0), has{Held: []api.LicencePaper{paper(1, 100)}, Tickets: []int{0, 0}}},
		{held(), has{Purse: 40, Tickets: []int{0, 0}}},
		{held(paper(0, 9), paper(1, 100), paper(0, 5)), has{Purse: 40, Held: []api.LicencePaper{paper(0, 9), paper(1, 100), paper(0, 5)}, Tickets: []int{0, 0}}},
		{rolls(1), has{Purse: 40, Held: []api.LicencePaper{paper(1, 100)}, Tickets: []int{0}}},
		{rolls(1, 2, 3, 4), has{Purse: 40, Held: []api.LicencePaper{paper(1, 100)}, Tickets: []int{0, 0, 0, 0}}},
	} {
		if got := hasOf(made(t, x.c)); !got.isSame(x.want) {
			t.Errorf("New %d: %v", i, got)
		}
	}
}

// P11.1, R3: a clerk that is nil, one that was not made, and a copy of one that was.
func TestNoClerk(t *testing.T) {
	c := made(t)
	play(t, c, ok("day 101", "101"), ok("show moon 1300", "1"), ok("send moon ayr cam 480", "665"), ok("close 760 31 18", "342 342"))
	other := *c
	before := hasOf(c)
	for i, none := range []*showman.Showman{nil, {}, new(showman.Showman), &other} {
		for _, line := range []string{"today", "day 5", "day 102", "nothing", "", "purse", "show race 1200", "licence 0 108", strings.Repeat("x", 121)} {
			if a, e := none.Do(line); a != "" || e != api.ErrNil {
				t.Errorf("Do of the clerk %d that is none: %q, %d", i, a, e)
			}
		}
		if got := hasOf(none); !got.isSame(has{}) {
			t.Errorf("the clerk %d that is none has %v", i, got)
		}
	}
	if got := hasOf(c); !got.isSame(before) {
		t.Errorf("the clerk of which there is a copy has %v", got)
	}
	play(t, c, ok("show race 1300", "1"), ok("licence 0 108", "377"))
}

// P11.5, R4: a setup is neither changed nor kept, also not behind the ends of its lists.
func TestSetupIsCopied(t *testing.T) {
	roomy := func(s *api.ShowmanSetup) {
		s.Town.Held = append(make([]api.LicencePaper, 0, 9), s.Town.Held...)
		s.Free = append(make([]api.Span, 0, 9), s.Free...)
		s.Prices = append(make([]int, 0, 9), s.Prices...)
	}
	own, want := example(roomy), example(roomy)
	c, _ := showman.New(own)
	d, _, _ := showman.Open(own, "day 1\n")
	lines := []said{ok("day 101", "101"), ok("licence 0 108", "35"), ok("licence 1 118", "15"), ok("show moon 1300", "1"), ok("send moon ayr cam 480", "665"), ok("close 760 31 18", "342 342")}
	play(t, c, lines...)
	play(t, d, lines...)
	if !reflect.DeepEqual(own, want) || !slices.Equal(own.Town.Held[:4], want.Town.Held[:4]) {
		t.Errorf("the setup was changed: %v", own)
	}
	for _, f := range own.Films {
		clear(f.Reels)
	}
	for i := range own.Table.Offices {
		clear(own.Table.Offices[i])
	}
	for _, x := range own.Table.Trains {
		clear(x.Stops)
	}
	clear(own.Films)
	clear(own.Names)
	clear(own.Table.Offices)
	clear(own.Table.Trains)
	clear(own.Stations)
	clear(own.Town.Kinds)
	clear(own.Town.Barred)
	clear(own.Town.Held[:4])
	clear(own.Prices)
	clear(own.Free)
	for _, x := range []*showman.Showman{c, d} {
		play(t, x, ok("got moon", "1"), ok("show moon 1300", "2"), ok("lasts moon", "19956 27296"), ok("order moon", "1 0 2 3"), ok("days 125", "101 102 103 104 108 118 119 120 121 122 123 124"), ok("reach ayr 480", "480 590 665"), ok("route ayr cam 495", "2 0 1"), ok("licence 0 140", "352"), ok("send race ayr bow 600", "780"), ok("away", "race"), ok("close 10 32 18", "-291 -291"))
		if l := x.Held(); !slices.Equal(l, []api.LicencePaper{paper(1, 100), paper(0, 108), paper(1, 118), paper(0, 140)}) {
			t.Errorf("Held: %v", l)
		}
	}
}

// P11.5, R4: results are new memory, also behind their ends.
func TestResultsAreNew(t *testing.T) {
	c := made(t)
	play(t, c, ok("day 101", "101"), ok("licence 0 108", "35"), ok("show moon 1300", "1"), ok("show race 1200", "1"), ok("send moon ayr cam 480", "665"), ok("send race ayr cam 480", "665"), ok("close 760 31 18", "342 342"))
	want := hasOf(c)
	overwrite(c.Shows(), api.ShowmanShow{Day: 9, Film: 9, Minute: 9})
	overwrite(c.Held(), paper(9, 9))
	overwrite(c.Tickets(), 9)
	overwrite(c.Away(), 9)
	overwrite(c.Journal(), "x")
	if got := hasOf(c); !got.isSame(want) {
		t.Errorf("after its results were written over the clerk has %v", got)
	}
	one, two := hasOf(c), hasOf(c)
	overwrite(one.Shows, api.ShowmanShow{})
	overwrite(one.Held, paper(9, 9))
	overwrite(one.Tickets, 9)
	overwrite(one.Away, 9)
	overwrite(one.Journal, "x")
	if !two.isSame(want) {
		t.Errorf("after one result was written over the other one is %v", two)
	}
	play(t, c, ok("got race", "1"), ok("licence 0 110", "372"), ok("show race 1000", "2"), ok("tickets", "31 18"), ok("away", "moon"))
	if l := c.Shows(); !slices.Equal(l, []api.ShowmanShow{{Day: 101, Minute: 1300}, {Day: 101, Film: 1, Minute: 1200}, {Day: 101, Film: 1, Minute: 1000}}) {
		t.Errorf("Shows: %v", l)
	}
	if l := c.Held(); !slices.Equal(l, []api.LicencePaper{paper(1, 100), paper(0, 108), paper(0, 110)}) {
		t.Errorf("Held: %v", l)
	}
	// what was returned stays as it was
	if !two.isSame(want) {
		t.Errorf("what was returned became %v", two)
	}
}

// overwrite fills a list, and the memory behind its end that belongs to it.
func overwrite[E any](list []E, with E) {
	list = list[:cap(list)]
	for i := range list {
		list[i] = with
	}
}

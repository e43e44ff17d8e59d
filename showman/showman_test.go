package showman_test

import (
	"fmt"
	"slices"
	"testing"

	"bioscope/api"
)

// P11.2: the lines of the chapter's examples.
func TestExamples(t *testing.T) {
	play(t, made(t),
		ok("today", "0"), not("show moon 1300"), ok("day 101", "101"), ok("show moon 1300", "1"), not("show moon 1351"),
		ok("show moon 1200", "2"), ok("lasts moon", "19956 27296"), ok("lasts race", "2500 2500"), ok("order moon", "1 0 2 3"), ok("spools moon", "2 2"), none("spools race"),
		ok("why moon 1351", "4"), ok("days 110", "101 102 103 104"), ok("fee 108 108", "5"), none("fee 105 108"),
		ok("licence 0 108", "35"), not("licence 0 109"), ok("licence 1 118", "15"), ok("purse", "15"),
		poor("licence 1 130"), ok("licence 0 140", "10"), full("licence 0 142"),
		ok("send moon ayr cam 480", "665"), away("show moon 1200"), away("got race"), ok("away", "moon"), ok("route ayr cam 495", "2 0 1"), ok("reach ayr 480", "480 590 665"),
		ok("close 760 31 18", "342 342"), untrue("close 760 31 18"), ok("tickets", "31 18"), ok("purse", "352"), ok("roll 0", "0"), ok("tickets", "0 18"),
	)
}

// P11.2: day.
func TestDay(t *testing.T) {
	c := made(t)
	play(t, c, ok("day 0", "0"), ok("day 5", "5"), outside("day 4"), outside("day 0"), ok("day 5", "5"), outside("day 1000"), ok("day 998", "998"), ok("day 999", "999"), outside("day 998"), outside("day 1000"), ok("day 999", "999"), ok("today", "999"))
	if c.Day() != 999 || len(c.Journal()) != 6 {
		t.Errorf("%v", hasOf(c))
	}
}

// P11.2: show, and its errors in their order.
func TestShow(t *testing.T) {
	c := made(t, forbidden(2))
	play(t, c,
		unknown("show noon 1440"), unknown("show ayr 5"), outside("show moon 1440"), outside("show race 999999"), not("show moon 0"), not("show moon 1439"),
		ok("day 101", "101"), ok("show moon 0", "1"), ok("show moon 1350", "2"), not("show moon 1351"), not("show moon 1439"), outside("show moon 1440"), not("show race 5"), outside("show race 1440"),
		// a film that is away
		ok("send moon ayr cam 480", "665"), away("show moon 5"), away("show moon 1351"), outside("show moon 1440"), ok("send race ayr cam 480", "665"), away("show race 5"), ok("got moon", "2"), ok("show moon 5", "3"),
		// days that are barred, and without a licence
		ok("day 104", "104"), ok("show moon 1350", "4"), ok("day 105", "105"), not("show moon 5"), ok("day 106", "106"), not("show moon 5"), ok("day 107", "107"), not("show moon 5"),
	)
	if l := c.Shows(); !slices.Equal(l, []api.ShowmanShow{{Day: 101}, {Day: 101, Minute: 1350}, {Day: 101, Minute: 5}, {Day: 104, Minute: 1350}}) {
		t.Errorf("Shows: %v", l)
	}
	// a show on the day 0, of the first film, in the minute 0
	c = made(t, held(paper(1, 0)))
	play(t, c, ok("show moon 0", "1"), ok("show race 0", "1"), ok("show moon 0", "2"), ok("show moon 0", "3"))
	if l := c.Shows(); !slices.Equal(l, []api.ShowmanShow{{}, {Film: 1}, {}, {}}) {
		t.Errorf("Shows: %v", l)
	}
	// the set of films is told by their numbers
	for film := range 4 {
		c = made(t, manyFilms(4), forbidden(15-1<<film), held(paper(1, 0)))
		for other := range 4 {
			x := not(fmt.Sprintf("show f%d 5", other))
			if other == film {
				x = ok(x.line, "1")
			}
			play(t, c, x)
		}
		if l := c.Shows(); !slices.Equal(l, []api.ShowmanShow{{Film: film, Minute: 5}}) {
			t.Errorf("Shows of the film %d: %v", film, l)
		}
	}
}

// P11.2: there are at most 40 shows, of all films.
func TestFullOfShows(t *testing.T) {
	c := made(t, held(paper(1, 0)))
	for i := range 20 {
		play(t, c, ok("show moon 1300", fmt.Sprint(i+1)), ok("show race 1300", fmt.Sprint(i+1)))
	}
	play(t, c, full("show moon 1300"), full("show race 0"), not("show moon 1351"), outside("show moon 1440"), unknown("show noon 1300"), ok("send moon ayr cam 480", "665"), away("show moon 1300"), ok("got moon", "20"), ok("lasts moon", "18660 26720"), ok("day 3", "3"), full("show moon 1300"), ok("day 100", "100"), not("show moon 1300"))
	l := c.Shows()
	if len(l) != 40 || l[38] != (api.ShowmanShow{Minute: 1300}) || l[39] != (api.ShowmanShow{Film: 1, Minute: 1300}) {
		t.Errorf("Shows: %v", l)
	}
}

// P11.2: licence, and its errors in their order.
func TestLicence(t *testing.T) {
	play(t, made(t),
		outside("licence 2 108"), outside("licence 999999 0"), outside("licence 0 1000"), outside("licence 2 1000"), outside("licence 1 999999"),
		ok("licence 0 999", "35"), not("licence 0 999"), not("licence 0 998"), not("licence 1 992"), not("licence 0 1"), not("licence 0 107"), not("licence 0 99"), ok("licence 0 98", "30"), not("licence 0 97"), ok("licence 0 2", "25"), ok("purse", "25"),
	)
	// just in time, and a day too late
	c := made(t)
	play(t, c, ok("day 50", "50"), not("licence 0 51"), ok("licence 0 52", "35"), not("licence 1 59"), ok("licence 1 60", "15"), not("licence 0 67"), ok("licence 0 68", "10"), full("licence 0 70"), ok("purse", "10"), ok("days 70", "52 60 61 62 63 64 65 66 68"))
	if l := c.Held(); !slices.Equal(l, []api.LicencePaper{paper(1, 100), paper(0, 52), paper(1, 60), paper(0, 68)}) || c.Purse() != 10 {
		t.Errorf("%v", hasOf(c))
	}
	// all of the money, and a cent too little
	play(t, made(t, purse(5)), ok("licence 0 5", "0"), poor("licence 0 7"), not("licence 0 6"), outside("licence 2 7"), ok("purse", "0"))
	play(t, made(t, purse(4)), poor("licence 0 5"), not("licence 0 1"))
	// one that costs nothing costs more than a purse below 0
	free := kinds(api.LicenceKind{Days: 1}, api.LicenceKind{Days: 7, Fee: 20})
	c = made(t, free, purse(0))
	play(t, c, ok("licence 0 5", "0"), ok("close 0 0 0", "-300 -300"), ok("purse", "-300"), poor("licence 0 7"), ok("close 760 31 18", "342 342"), ok("licence 0 7", "42"))
	// no room, though there is no money, and though it is no plan
	four := held(paper(0, 10), paper(0, 20), paper(0, 30), paper(0, 40))
	play(t, made(t, four, purse(0)), full("licence 0 50"), not("licence 0 40"), not("licence 0 1"), outside("licence 2 50"), outside("licence 0 1000"))
	// each one more counts
	c = made(t, held(), purse(100))
	play(t, c, ok("licence 0 10", "95"), ok("licence 0 12", "90"), not("licence 0 12"), not("licence 0 11"), not("licence 1 13"), ok("licence 1 14", "70"), ok("licence 0 8", "65"), full("licence 0 30"))
	if l := c.Held(); !slices.Equal(l, []api.LicencePaper{paper(0, 10), paper(0, 12), paper(1, 14), paper(0, 8)}) {
		t.Errorf("Held: %v", l)
	}
}

// P11.2: send and got, and their errors in their order.
func TestSend(t *testing.T) {
	c := made(t)
	play(t, c,
		unknown("send noon ayr ayr 2880"), unknown("send moon zoo ayr 2880"), unknown("send moon ayr zoo 2880"), unknown("send ayr moon moon 480"), outside("send moon ayr ayr 480"), outside("send moon ayr cam 2880"), outside("send moon ayr ayr 999999"), none("send moon cam ayr 480"), none("send moon ayr cam 2879"), none("send moon ayr cam 479"), none("send moon ayr cam 800"),
		away("got moon"), away("got race"), unknown("got noon"),
		ok("send moon ayr cam 490", "665"), away("send moon ayr cam 490"), away("send moon cam ayr 480"), outside("send moon ayr ayr 480"), outside("send moon ayr cam 2880"), unknown("send moon zoo cam 480"), ok("away", "moon"), away("got race"),
		ok("send race ayr bow 680", "780"), ok("away", "moon race"), ok("got moon", "0"), ok("away", "race"), away("got moon"), ok("send moon bow cam 590", "665"), ok("got race", "0"), ok("away", "moon"),
	)
	if l := c.Away(); !slices.Equal(l, []int{0}) {
		t.Errorf("Away: %v", l)
	}
	play(t, c, ok("day 100", "100"), ok("show race 5", "1"), ok("show race 5", "2"), ok("send race ayr cam 480", "665"), ok("got race", "2"), ok("got moon", "0"), ok("away", "-"))
	if l := c.Away(); len(l) != 0 {
		t.Errorf("Away: %v", l)
	}
	// numbers of films, increasing, however they were sent
	c = made(t, manyFilms(4))
	play(t, c, ok("send f3 ayr cam 480", "665"), ok("send f0 ayr cam 480", "665"), ok("send f2 ayr cam 480", "665"), ok("away", "f0 f2 f3"))
	if l := c.Away(); !slices.Equal(l, []int{0, 2, 3}) {
		t.Errorf("Away: %v", l)
	}
	// what is not yet there on the second day is on its way on no train
	play(t, made(t, func(s *api.ShowmanSetup) { s.Table.Trains = nil }), none("send moon ayr cam 480"))
}

// P11.2: close, and its errors in their order.
func TestClose(t *testing.T) {
	c := made(t)
	play(t, c,
		outside("close 60001 31 18"), outside("close 760 301 18"), outside("close 760 31 301"), outside("close 999999 999999 999999"), untrue("close 60000 31 18"), untrue("close 734 31 18"), untrue("close 766 31 18"), ok("close 745 31 18", "333 338"),
		ok("tickets", "31 18"), outside("close 0 30 18"), outside("close 0 31 17"), outside("close 60001 30 18"), untrue("close 6 31 18"), ok("close 5 31 18", "-300 -300"), ok("tickets", "31 18"), ok("purse", "73"),
	)
	if l := c.Tickets(); !slices.Equal(l, []int{31, 18}) || c.Purse() != 73 {
		t.Errorf("%v", hasOf(c))
	}
	// the least that is left, also if it is below 0
	c = made(t, wrong(12), guarantee(0))
	play(t, c, ok("close 760 31 18", "338 342"), ok("purse", "378"))
	c = made(t, wrong(200), purse(0), guarantee(400))
	play(t, c, ok("close 0 2 1", "-377 -359"), ok("purse", "-377"), ok("close 0 2 1", "-400 -400"), ok("purse", "-777"))
	// all tickets, and a roll that begins again
	c = made(t, rolls(1, 50), wrong(0), duty(0), share(0), guarantee(0))
	play(t, c, ok("close 15300 300 300", "15300 15300"), ok("tickets", "300 300"), outside("close 0 0 300"), ok("close 0 300 300", "0 0"), ok("roll 0", "0"), ok("tickets", "0 300"), ok("close 0 0 300", "0 0"), ok("close 7 7 300", "7 7"), outside("close 0 6 300"), ok("roll 1", "1"), ok("tickets", "7 0"), ok("close 101 8 2", "101 101"), ok("purse", "15448"))
	// tickets that were given out free, more than are gone
	c = made(t, func(s *api.ShowmanSetup) { s.Free[0] = span(2, 2) })
	play(t, c, untrue("close 0 1 0"), ok("close 0 2 0", "-300 -300"), untrue("close 10 3 0"), ok("close 10 5 0", "-291 -291"), ok("tickets", "5 0"))
	// each setting counts
	play(t, made(t, rolls(10), wrong(0), duty(100), guarantee(0)), ok("close 100 10", "0 0"))
	play(t, made(t, rolls(10), wrong(0), duty(0), share(100), guarantee(0)), ok("close 100 10", "0 0"))
	play(t, made(t, rolls(10), wrong(0), duty(0), share(0), guarantee(60000), purse(60000)), ok("close 100 10", "-59900 -59900"), ok("purse", "100"))
	play(t, made(t, rolls(10, 20, 30, 40), wrong(0), duty(0), share(0), guarantee(0)), ok("close 300 1 2 3 4", "300 300")) // 10 + 40 + 90 + 160
}

// P11.2: roll.
func TestRoll(t *testing.T) {
	play(t, made(t), ok("roll 0", "0"), ok("roll 1", "1"), outside("roll 2"), outside("roll 999999"), ok("tickets", "0 0"), ok("close 760 31 18", "342 342"), outside("roll 2"), ok("tickets", "31 18"), ok("roll 1", "1"), ok("tickets", "31 0"))
	play(t, made(t, rolls(1)), ok("roll 0", "0"), outside("roll 1"))
	play(t, made(t, rolls(1, 1, 1, 1)), ok("roll 3", "3"), outside("roll 4"))
}

// P11.2: why, days and fee.
func TestAskTown(t *testing.T) {
	play(t, made(t, forbidden(2)),
		unknown("why noon 1440"), outside("why moon 1440"), ok("why moon 5", "1"), ok("why race 1439", "1"), ok("day 101", "101"), ok("why moon 1350", "0"), ok("why moon 1351", "4"), ok("why race 1350", "3"), ok("why race 1351", "3"), ok("day 105", "105"), ok("why moon 1351", "2"), ok("day 107", "107"), ok("why moon 5", "1"),
		outside("days 106"), ok("days 107", "-"), ok("days 999", "-"), outside("days 1000"), ok("licence 0 110", "35"), ok("licence 0 112", "30"), ok("days 109", "-"), ok("days 110", "110"), ok("days 999", "110 112"), ok("day 111", "111"), ok("days 999", "112"), ok("days 111", "-"), outside("days 110"),
	)
	play(t, made(t), ok("days 0", "-"), ok("days 999", "100 101 102 103 104"), ok("why moon 0", "1"), ok("send moon ayr cam 480", "665"), ok("day 100", "100"), ok("why moon 0", "0"), ok("days 102", "100 101 102"))
	play(t, made(t),
		ok("day 50", "50"), outside("fee 49 50"), outside("fee 50 49"), outside("fee 999 1000"), outside("fee 1000 1000"), outside("fee 60 68"), ok("fee 108 108", "5"), none("fee 51 51"), ok("fee 52 52", "5"), ok("fee 60 61", "20"), ok("fee 60 66", "20"), none("fee 60 67"), none("fee 59 60"), none("fee 105 105"), ok("fee 100 104", "0"), none("fee 98 105"), ok("fee 97 98", "20"), none("fee 99 99"), ok("fee 998 999", "20"),
		ok("licence 0 60", "35"), ok("fee 60 60", "0"), none("fee 60 61"), outside("fee 999999 999999"),
	)
	// eight days
	play(t, made(t, kinds(api.LicenceKind{Days: 8, Fee: 7}), held(), func(s *api.ShowmanSetup) { s.Town.Barred = nil }), ok("fee 0 7", "7"), ok("fee 1 8", "7"), outside("fee 0 8"), outside("fee 1 9"), ok("fee 992 999", "7"), outside("fee 993 1000"), ok("licence 0 2", "33"), ok("fee 2 9", "0"), ok("fee 3 9", "0"), none("fee 3 10"))
}

// P11.2: order, lasts and spools.
func TestAskFilm(t *testing.T) {
	// after two showings the reel has room on a spool
	long := films(simpleFilm(420, 7, 10, 400), simpleFilm(1200, 20, 50, 6000))
	play(t, made(t, long, held(paper(1, 0))),
		unknown("order noon"), unknown("lasts noon"), unknown("spools noon"), ok("order moon", "0"), ok("lasts moon", "2940 2940"), none("spools moon"), ok("spools race", "1"), ok("show moon 5", "1"), ok("lasts moon", "2870 2870"), none("spools moon"), ok("show moon 5", "2"), ok("spools moon", "1"), ok("lasts moon", "2800 2800"), ok("lasts race", "24000 24000"), ok("show race 5", "1"), ok("lasts race", "23000 23000"), ok("lasts moon", "2800 2800"),
		ok("send moon ayr cam 480", "665"), ok("lasts moon", "2800 2800"), ok("spools moon", "1"), ok("order moon", "0"),
	)
	// reels without an order
	play(t, made(t, func(s *api.ShowmanSetup) { s.Films[0].Reels[1].Last = span(5, 6) }), none("order moon"), none("spools moon"), ok("lasts moon", "20100 27360"), ok("order race", "0"))
	// as many reels on a spool as have room after the showings: 900 and 900 feet
	two := example().Films[0]
	two.Reels, two.Spool, two.Tear = []api.ReelReel{reelOf(span(1, 1), span(2, 2), span(900, 900)), reelOf(span(3, 3), span(4, 4), span(900, 900))}, 1790, span(0, 5)
	play(t, made(t, films(two), names("moon"), held(paper(1, 0))), ok("spools moon", "1 1"), ok("show moon 5", "1"), ok("spools moon", "1 1"), ok("lasts moon", "10740 14400"))
	two.Tear = span(5, 5)
	play(t, made(t, films(two), names("moon"), held(paper(1, 0))), ok("spools moon", "1 1"), ok("show moon 5", "1"), ok("spools moon", "2"))
	// the order that is the first one, also on spools
	two.Reels[0], two.Reels[1] = two.Reels[1], two.Reels[0]
	two.Reels[0].Feet, two.Spool = span(100, 100), 900
	play(t, made(t, films(two), names("moon"), held(paper(1, 0))), ok("order moon", "1 0"), ok("spools moon", "1 1"))
}

// P11.2: route and reach.
func TestAskTrains(t *testing.T) {
	play(t, made(t),
		unknown("route zoo ayr 2880"), unknown("route ayr zoo 2880"), unknown("route zoo zoo 480"), outside("route ayr ayr 480"), outside("route cam cam 2880"), outside("route ayr cam 2880"), none("route ayr cam 2879"), none("route cam ayr 480"), none("route ayr cam 479"), ok("route ayr cam 480", "0 0 1 1 0 1"), ok("route ayr cam 495", "2 0 1"), ok("route ayr bow 480", "0 0 1"), ok("route bow cam 480", "1 0 1"), ok("route bow cam 580", "1 0 1"),
		unknown("reach zoo 2880"), outside("reach ayr 2880"), ok("reach ayr 2879", "2879 -1 -1"), ok("reach ayr 480", "480 590 665"), ok("reach ayr 600", "600 780 870"), ok("reach bow 480", "-1 480 665"), ok("reach cam 500", "-1 -1 500"), ok("reach cam 0", "-1 -1 0"),
	)
	play(t, made(t, manyStations(1)), ok("reach s0 5", "5"), outside("route s0 s0 5"))
	play(t, made(t, manyStations(6)), ok("reach s5 5", "-1 -1 -1 -1 -1 5"), none("route s0 s5 5"))
}

// P11.2: away, tickets, purse and today.
func TestAskClerk(t *testing.T) {
	c := made(t)
	play(t, c, ok("away", "-"), ok("tickets", "0 0"), ok("purse", "40"), ok("today", "0"), ok("day 7", "7"), ok("today", "7"), ok("close 0 0 0", "-300 -300"), ok("purse", "-260"))
	if c.Purse() != -260 || c.Day() != 7 {
		t.Errorf("%v", hasOf(c))
	}
	play(t, made(t, rolls(1)), ok("tickets", "0"))
	play(t, made(t, rolls(1, 2, 3, 4)), ok("tickets", "0 0 0 0"))
	// a film and a station can have the same name, and that of a word
	play(t, made(t, names("ayr", "away"), stations("ayr", "day", "send")), ok("send ayr ayr send 480", "665"), ok("send away ayr day 480", "590"), ok("away", "ayr away"), ok("got away", "0"), ok("away", "ayr"))
}

// P11.3: what changes something is added to the journal, also if it changes nothing this time.
func TestJournal(t *testing.T) {
	c := made(t)
	var want []string
	for i, x := range forms() {
		play(t, c, x)
		if i < 7 {
			want = append(want, x.line)
		}
		if l := c.Journal(); !slices.Equal(l, want) {
			t.Errorf("after %q the journal is %q", x.line, l)
		}
	}
	play(t, c, ok("day 101", "101"), ok("roll 0", "0"), ok("roll 0", "0"), outside("day 5"), no("day", api.ErrShowmanLine))
	if l := c.Journal(); !slices.Equal(l, append(want, "day 101", "roll 0", "roll 0")) {
		t.Errorf("the journal is %q", l)
	}
}

// P11.2: a journal of 200 lines is full before any other error but that of the form.
func TestFullJournal(t *testing.T) {
	c := made(t)
	play(t, c, ok("day 101", "101"), ok("send race ayr cam 480", "665"))
	for range 198 {
		play(t, c, ok("day 101", "101"))
	}
	before := hasOf(c)
	for _, line := range []string{"day 102", "day 101", "day 5", "day 1000", "show moon 1300", "show moon 1351", "show noon 1440", "show race 5", "licence 0 108", "licence 2 108", "licence 0 102", "send moon ayr cam 480", "send race zoo zoo 2880", "got race", "got moon", "got noon", "close 760 31 18", "close 60001 31 18", "close 0 31 18", "roll 0", "roll 2"} {
		play(t, c, full(line))
	}
	for _, line := range []string{"day", "day x", "show moon", "licence 0", "send moon ayr 480", "got", "close 760 31", "roll", "roll 00", "nothing", "today 5"} {
		play(t, c, no(line, api.ErrShowmanLine))
	}
	play(t, c, ok("today", "101"), ok("away", "race"), ok("why moon 1300", "0"), unknown("lasts noon"), outside("days 5"), ok("purse", "40"), ok("tickets", "0 0"))
	if len(before.Journal) != 200 || !hasOf(c).isSame(before) {
		t.Errorf("after %d lines: %v", len(before.Journal), hasOf(c))
	}
}

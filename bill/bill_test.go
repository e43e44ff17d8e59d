package bill_test

import (
	"slices"
	"testing"

	"bioscope/api"
	"bioscope/bill"
)

// P6.1: how long a film lasts.
func TestLong(t *testing.T) {
	// in its order the reels need two spools, as they are listed they would need three
	mixed := example(made(0, reel(5, 6, 600), reel(1, 2, 600), reel(7, 8, 400), reel(3, 4, 400)))
	// each of two orders can be; by the first one the reels need three spools, by the other one two
	free := example(made(0, reel(1, 1, 600), reel(1, 1, 600), reel(1, 1, 400), reel(1, 1, 400)))
	for i, x := range []struct {
		b    api.BillBook
		film int
		want api.Span
	}{
		// the examples
		{example(), 0, span(5400, 7200)}, {example(), 1, span(11400, 12000)}, {example(two), 1, span(10800, 10800)},
		{example(), 2, span(6000, 6000)}, {example(two), 0, span(5400, 7200)},
		// changes for each spool but the first one, by the seconds
		{example(spool(1, 1799)), 1, span(11400, 12000)}, {example(spool(1, 1800)), 1, span(10800, 10800)}, {example(changing(0, 0)), 1, span(10800, 10800)}, {example(changing(1, 1)), 1, span(10810, 10810)}, {example(changing(0, 600)), 1, span(10800, 16800)}, {example(changing(0, 600)), 0, span(5400, 7200)}, {example(two, changing(600, 600)), 1, span(10800, 10800)},
		{example(made(0, slices.Repeat([]api.ReelReel{reel(1, 1, 1000)}, 6)...)), 0, span(6*6000+5*600, 6*8000+5*1200)}, {example(made(0, slices.Repeat([]api.ReelReel{reel(1, 1, 500)}, 6)...)), 0, span(6*3000+2*600, 6*4000+2*1200)},
		// the order of the reels
		{mixed, 0, span(2000*6+1*600, 2000*8+1*1200)}, {free, 0, span(2000*6+2*600, 2000*8+2*1200)},
		// showings: as long as the reels then, and on as many spools
		{example(shows(1, 10)), 1, span(10440+600, 10680+1200)}, {example(shows(1, 10), two), 1, span(10440, 10680)}, {example(shows(1, 10), spool(1, 1780)), 1, span(10440, 10680)}, {example(shows(1, 10), spool(1, 1779)), 1, span(11040, 11880)}, {example(shows(0, 300)), 0, span(0, 4800)}, {example(shows(0, 900)), 0, span(0, 0)}, {example(shows(0, 899)), 0, span(0, 8)}, {example(shows(1, 999)), 1, span(0, 6)},
		// what is known less well
		{example(func(b *api.BillBook) {
			b.Films[1].Reels.Reels[0].Feet, b.Films[1].Reels.Reels[1].Feet = span(100, 200), span(700, 800)
		}), 1, span(4800, 6000)}, {example(func(b *api.BillBook) { b.Films[1].Reels.Reels[0].Feet = span(100, 201) }), 1, span(5400+600, 6006+1200)}, {example(turn(2, 1, 20)), 2, span(1200, 24000)},
		// when a film is shown, and where, is nothing to it
		{example(from(0, 1439), day(999), closes(0), number(0, 3), pause(60, 60)), 0, span(5400, 7200)},
	} {
		if s, e := bill.Long(x.b, x.film); s != x.want || e != api.OK {
			t.Errorf("Long %d: %v, %d", i, s, e)
		}
	}
}

// evening is a bill that begins in a minute.
type evening struct {
	b    api.BillBook
	bill []int
	at   int
}

// P6.2: between what each film is over.
func TestEnds(t *testing.T) {
	for i, x := range []struct {
		evening
		want []api.Span
	}{
		// the examples
		{evening{example(), []int{0, 1}, 1300}, []api.Span{span(1309, 1312), span(1339, 1340)}}, {evening{example(), []int{1, 0}, 1330}, []api.Span{span(1349, 1350), span(1363, 1367)}},
		// an end just at the beginning of a minute is in that minute, one behind it in the next one
		{evening{brief(600), []int{0}, 10}, []api.Span{span(11, 11)}}, {evening{brief(599), []int{0}, 10}, []api.Span{span(11, 11)}}, {evening{brief(601), []int{0}, 10}, []api.Span{span(12, 12)}}, {evening{brief(1), []int{0}, 10}, []api.Span{span(11, 11)}}, {evening{brief(1200), []int{0}, 0}, []api.Span{span(2, 2)}}, {evening{with(brief(1), tear(0, 1, 1), shows(0, 1)), []int{0}, 10}, []api.Span{span(10, 10)}}, {evening{with(brief(1), tear(0, 0, 1), shows(0, 1)), []int{0}, 10}, []api.Span{span(10, 11)}},
		// the next film begins behind the end, not behind the minute of the end
		{evening{brief(601, 599), []int{0, 1}, 10}, []api.Span{span(12, 12), span(12, 12)}}, {evening{brief(601, 600), []int{0, 1}, 10}, []api.Span{span(12, 12), span(13, 13)}}, {evening{brief(700, 700), []int{0, 1}, 10}, []api.Span{span(12, 12), span(13, 13)}}, {evening{brief(700, 700, 700), []int{2, 0, 1}, 10}, []api.Span{span(12, 12), span(13, 13), span(14, 14)}}, {evening{brief(100, 100, 100, 100, 200), []int{4, 0, 1, 2, 3}, 10}, []api.Span{span(11, 11), span(11, 11), span(11, 11), span(11, 11), span(11, 11)}}, {evening{with(brief(700, 700), pause(5, 5)), []int{0, 1}, 10}, []api.Span{span(12, 12), span(18, 18)}},
		// pauses are known as well as they are, and there is none before the first film or behind the last one
		{evening{with(brief(600, 600), pause(3, 8)), []int{0, 1}, 10}, []api.Span{span(11, 11), span(15, 20)}}, {evening{with(brief(600, 600, 600), pause(0, 60)), []int{0, 2, 1}, 10}, []api.Span{span(11, 11), span(12, 72), span(13, 133)}}, {evening{example(pause(3, 8)), []int{0, 2}, 1300}, []api.Span{span(1309, 1312), span(1322, 1330)}},
		// no film begins before its From: the first one, a later one, one just in time, one that may be late
		{evening{example(), []int{1}, 0}, []api.Span{span(1339, 1340)}}, {evening{example(), []int{1, 0}, 0}, []api.Span{span(1339, 1340), span(1353, 1357)}}, {evening{example(), []int{0, 1}, 1303}, []api.Span{span(1312, 1315), span(1339, 1340)}}, {evening{example(), []int{0, 1}, 1304}, []api.Span{span(1313, 1316), span(1339, 1341)}}, {evening{example(), []int{0, 1}, 1307}, []api.Span{span(1316, 1319), span(1340, 1344)}}, {evening{with(brief(700, 600), from(1, 11)), []int{0, 1}, 10}, []api.Span{span(12, 12), span(13, 13)}}, {evening{with(brief(700, 600), from(1, 12)), []int{0, 1}, 10}, []api.Span{span(12, 12), span(13, 13)}}, {evening{with(brief(700, 700), from(1, 12)), []int{0, 1}, 10}, []api.Span{span(12, 12), span(14, 14)}}, {evening{with(brief(600, 600), from(0, 100), from(1, 50)), []int{1, 0}, 10}, []api.Span{span(51, 51), span(101, 101)}},
		// a From that is just the beginning has no pause before it
		{evening{with(brief(600, 600), pause(5, 5), from(0, 10)), []int{0}, 10}, []api.Span{span(11, 11)}},
		// the first and the last minute of a day, and the next day
		{evening{brief(600), []int{0}, 0}, []api.Span{span(1, 1)}}, {evening{brief(600), []int{0}, 1439}, []api.Span{span(1440, 1440)}}, {evening{example(), []int{0, 2, 1}, 1439}, []api.Span{span(1448, 1451), span(1463, 1466), span(1487, 1491)}},
		// it may be forbidden, or too late
		{evening{example(day(107)), []int{2}, 1300}, []api.Span{span(1310, 1310)}}, {evening{example(until(0, 0)), []int{0}, 1300}, []api.Span{span(1309, 1312)}},
		// showings, spools and projectors
		{evening{example(shows(1, 10)), []int{1}, 0}, []api.Span{span(1339, 1340)}}, {evening{example(shows(1, 10), spool(1, 1780)), []int{1}, 0}, []api.Span{span(1338, 1338)}}, {evening{example(two), []int{0, 1}, 1307}, []api.Span{span(1316, 1319), span(1339, 1342)}},
	} {
		if l, e := bill.Ends(x.b, x.bill, x.at); !slices.Equal(l, x.want) || e != api.OK {
			t.Errorf("Ends %d: %v, %d", i, l, e)
		}
	}
}

// P6.3: why a film may not be shown: of several reasons the first one.
func TestWhy(t *testing.T) {
	fine, noDay, barred, film, hour, own := api.LicenceFine, api.LicenceDay, api.LicenceBarred, api.LicenceFilm, api.LicenceHour, api.BillUntil
	soon := until(1, 1339)
	for i, x := range []struct {
		evening
		want []int
	}{
		// the examples
		{evening{example(), []int{0, 1}, 1300}, []int{fine, fine}}, {evening{example(), []int{0, 1}, 1340}, []int{hour, hour}}, {evening{example(), []int{2}, 1300}, []int{film}}, {evening{example(soon), []int{0, 1}, 1300}, []int{fine, own}},
		// just in time for the hour, by the last minute in which it can be over
		{evening{example(), []int{0}, 1338}, []int{fine}}, {evening{example(), []int{0}, 1339}, []int{hour}}, {evening{example(), []int{1, 0}, 1330}, []int{fine, hour}}, {evening{example(), []int{0, 1}, 1313}, []int{fine, fine}}, {evening{example(), []int{0, 1}, 1314}, []int{fine, hour}},
		// for its own, which is asked last
		{evening{example(until(0, 1312)), []int{0}, 1300}, []int{fine}}, {evening{example(until(0, 1311)), []int{0}, 1300}, []int{own}}, {evening{example(until(0, 0)), []int{0}, 1338}, []int{own}}, {evening{example(until(0, 0)), []int{0}, 1339}, []int{hour}}, {evening{example(until(2, 0)), []int{2}, 1300}, []int{film}}, {evening{example(until(0, 0), day(105)), []int{0}, 1300}, []int{barred}}, {evening{example(until(0, 0), day(107)), []int{0}, 1300}, []int{noDay}}, {evening{example(until(0, 1311)), []int{0, 1}, 1300}, []int{own, fine}},
		// the day
		{evening{example(day(107)), []int{0, 2}, 1439}, []int{noDay, noDay}}, {evening{example(day(105)), []int{2, 0}, 1300}, []int{barred, barred}}, {evening{example(day(99)), []int{0}, 1300}, []int{noDay}}, {evening{example(day(100)), []int{0}, 1300}, []int{fine}}, {evening{example(day(106)), []int{0}, 1439}, []int{barred}}, {evening{example(day(104)), []int{0}, 1300}, []int{fine}},
		// a film by its number in the town, not in the book
		{evening{example(forbidden(1)), []int{0, 1}, 1300}, []int{fine, fine}}, {evening{example(forbidden(4)), []int{0, 1}, 1300}, []int{film, fine}}, {evening{example(forbidden(32)), []int{0, 1}, 1300}, []int{fine, film}}, {evening{example(forbidden(65535)), []int{0, 1}, 1340}, []int{film, film}}, {evening{example(forbidden(32768), number(0, 15)), []int{0}, 1300}, []int{film}}, {evening{example(number(0, 3), number(2, 4)), []int{0, 2}, 1300}, []int{film, fine}},
		// the next day, in a town that closes with the day: what is said of its last minute comes first, and then the hour
		{evening{brief(600), []int{0}, 1438}, []int{fine}}, {evening{brief(600), []int{0}, 1439}, []int{hour}}, {evening{brief(601), []int{0}, 1438}, []int{hour}}, {evening{with(brief(600), until(0, 1438)), []int{0}, 1438}, []int{own}}, {evening{with(brief(600), until(0, 1438)), []int{0}, 1439}, []int{hour}}, {evening{with(brief(600), forbidden(1)), []int{0}, 1439}, []int{film}}, {evening{with(brief(600), day(1)), []int{0}, 1439}, []int{noDay}}, {evening{with(brief(600, 600), closes(1438)), []int{1, 0}, 1439}, []int{hour, hour}}, {evening{with(brief(600), closes(1438)), []int{0}, 1438}, []int{hour}}, {evening{with(brief(600), closes(1438)), []int{0}, 1437}, []int{fine}}, {evening{example(closes(1439)), []int{0, 2, 1}, 1430}, []int{hour, film, hour}}, {evening{example(closes(1439), soon), []int{1}, 1420}, []int{hour}}, {evening{example(closes(1439), soon), []int{1}, 1419}, []int{own}},
		// the first minute
		{evening{with(brief(1), tear(0, 1, 1), shows(0, 1), closes(0), until(0, 0)), []int{0}, 0}, []int{fine}}, {evening{with(brief(1), closes(0), until(0, 0)), []int{0}, 0}, []int{hour}}, {evening{with(brief(1), until(0, 0)), []int{0}, 0}, []int{own}},
		// the same film behind others
		{evening{example(forbidden(0)), []int{1, 2, 0}, 1300}, []int{fine, hour, hour}}, {evening{example(forbidden(0)), []int{2, 0, 1}, 1300}, []int{fine, fine, hour}},
	} {
		if l, e := bill.Why(x.b, x.bill, x.at); !slices.Equal(l, x.want) || e != api.OK {
			t.Errorf("Why %d: %v, %d", i, l, e)
		}
	}
}

// P6.4: how late a bill can begin.
func TestLatest(t *testing.T) {
	night, soon := closes(1439), until(1, 1339)
	for i, x := range []struct {
		b    api.BillBook
		bill []int
		want int
		e    api.Errno
	}{
		// the examples
		{example(), []int{0, 1}, 1313, api.OK}, {example(), []int{1, 0}, 0, api.ErrNone}, {example(), []int{0}, 1338, api.OK},
		{example(), []int{1}, 1330, api.OK}, {example(soon), []int{0, 1}, 0, api.ErrNone}, {example(soon), []int{1}, 0, api.ErrNone}, {example(until(1, 1340)), []int{1}, 1320, api.OK}, {example(until(1, 1340)), []int{0, 1}, 1303, api.OK}, {example(two), []int{0, 1}, 1315, api.OK}, {example(night), []int{1, 0}, 1402, api.OK}, {example(two, night), []int{1, 0}, 1404, api.OK}, {example(pause(3, 8)), []int{0, 1}, 1310, api.OK}, {example(until(0, 1310)), []int{0, 1}, 1298, api.OK},
		// it never may be shown
		{example(), []int{2}, 0, api.ErrNone}, {example(), []int{0, 2}, 0, api.ErrNone}, {example(day(107)), []int{0}, 0, api.ErrNone}, {example(day(105)), []int{0}, 0, api.ErrNone}, {example(until(0, 11)), []int{0}, 0, api.ErrNone}, {example(closes(11)), []int{0}, 0, api.ErrNone},
		// the first minute, and the last one
		{example(until(0, 12)), []int{0}, 0, api.OK}, {example(closes(12)), []int{0}, 0, api.OK}, {example(closes(13)), []int{0}, 1, api.OK}, {brief(1), []int{0}, 1438, api.OK}, {brief(600), []int{0}, 1438, api.OK}, {brief(601), []int{0}, 1437, api.OK}, {with(brief(1), tear(0, 1, 1), shows(0, 1)), []int{0}, 1439, api.OK}, {with(brief(1), tear(0, 1, 1), shows(0, 1), until(0, 0)), []int{0}, 0, api.OK}, {with(brief(1), tear(0, 1, 1), shows(0, 1), closes(0)), []int{0}, 0, api.OK}, {with(brief(1), tear(0, 0, 1), shows(0, 1), closes(0)), []int{0}, 0, api.ErrNone}, {with(brief(600), from(0, 1439)), []int{0}, 0, api.ErrNone}, {with(brief(600), from(0, 1438)), []int{0}, 1438, api.OK},
		// parts of minutes add up
		{brief(700, 700, 700), []int{0, 1, 2}, 1435, api.OK}, {brief(600, 600, 601), []int{0, 1, 2}, 1435, api.OK}, {brief(600, 600, 600), []int{0, 1, 2}, 1436, api.OK}, {brief(1200, 1200, 1200, 1200, 1200), []int{4, 2, 0, 1, 3}, 1429, api.OK}, {with(brief(600, 600), pause(0, 60)), []int{0, 1}, 1377, api.OK},
	} {
		if n, e := bill.Latest(x.b, x.bill); n != x.want || e != x.e {
			t.Errorf("Latest %d: %d, %d", i, n, e)
		}
	}
}

// P6.5: the most films.
func TestBest(t *testing.T) {
	free, night, soon := forbidden(0), closes(1439), until(1, 1339)
	for i, x := range []struct {
		b    api.BillBook
		at   int
		want []int
		e    api.Errno
	}{
		// the examples
		{example(), 1300, []int{0, 1}, api.OK}, {example(), 1325, []int{0}, api.OK}, {example(), 1345, nil, api.ErrNone},
		{example(), 0, []int{0, 1}, api.OK}, {example(), 1313, []int{0, 1}, api.OK}, {example(), 1314, []int{0}, api.OK}, {example(), 1338, []int{0}, api.OK}, {example(), 1339, nil, api.ErrNone}, {example(), 1439, nil, api.ErrNone}, {example(day(107)), 1200, nil, api.ErrNone}, {example(day(105)), 1200, nil, api.ErrNone}, {example(soon), 1200, []int{0}, api.OK},
		// more films, though they are over later
		{example(free), 1200, []int{0, 2, 1}, api.OK}, {example(free), 1290, []int{0, 2, 1}, api.OK}, {brief(600, 600, 600, 600, 600), 0, []int{0, 1, 2, 3, 4}, api.OK}, {brief(600, 600, 600, 600, 600), 1434, []int{0, 1, 2, 3, 4}, api.OK}, {brief(600, 600, 600, 600, 600), 1435, []int{0, 1, 2, 3}, api.OK}, {brief(600), 1439, nil, api.ErrNone},
		// of as many films those that are over soonest
		{example(free), 1300, []int{0, 2}, api.OK}, {example(free), 1339, []int{2}, api.OK}, {example(free), 1341, nil, api.ErrNone}, {example(free, soon), 1300, []int{0, 2}, api.OK}, {example(night, free), 1400, []int{0, 2}, api.OK}, {brief(1200, 1200, 600), 1438, []int{2}, api.OK}, {brief(1200, 700, 1100, 600), 1436, []int{0, 3}, api.OK}, {brief(1200, 700, 1100, 500), 1436, []int{1, 3}, api.OK}, {brief(1200, 700, 1100, 501), 1435, []int{1, 2, 3}, api.OK}, {brief(1200, 700, 1100, 500), 1435, []int{0, 1, 3}, api.OK},
		// as soon, though one is longer: the first one
		{brief(600, 1), 1438, []int{0}, api.OK}, {brief(601, 600, 1), 1437, []int{0, 2}, api.OK}, {brief(601, 599, 1), 1438, []int{1, 2}, api.OK}, {brief(1200, 1199, 1, 1200), 1437, []int{1, 2}, api.OK}, {brief(600, 600), 10, []int{0, 1}, api.OK},
		// by the last minute in which it can be over, not by the first one
		{with(brief(1000, 600), turn(0, 1, 2), closes(15)), 10, []int{0, 1}, api.OK}, {with(brief(600, 1000), turn(0, 1, 4), closes(14)), 10, []int{1}, api.OK}, {with(brief(600, 1000), turn(0, 1, 4), closes(13)), 10, []int{1}, api.OK}, {with(brief(1200, 1200), turn(0, 1, 2), turn(1, 1, 1), closes(14)), 10, []int{1}, api.OK},
		// what must wait comes later
		{with(brief(600, 600), from(0, 30)), 10, []int{1, 0}, api.OK}, {with(brief(600, 600, 600), from(1, 30), until(2, 12)), 10, []int{0, 2, 1}, api.OK}, {with(brief(600, 600, 600), from(1, 30), until(2, 11)), 10, []int{2, 0, 1}, api.OK}, {with(brief(600, 600, 600), until(2, 11), until(1, 12), until(0, 12)), 10, []int{0, 1}, api.OK}, {with(brief(600, 600, 600), until(2, 11), until(1, 11), until(0, 12)), 10, []int{1, 0}, api.OK}, {with(brief(600, 600, 600), until(2, 11), until(1, 12), until(0, 11)), 10, []int{0, 1}, api.OK}, {with(brief(600, 600), from(0, 1439)), 10, []int{1}, api.OK}, {with(brief(600, 600), from(0, 20), from(1, 20), closes(21)), 10, []int{0}, api.OK},
		// without what is forbidden
		{with(brief(600, 600, 600), forbidden(1)), 10, []int{1, 2}, api.OK}, {with(brief(600, 600, 600), forbidden(5)), 10, []int{1}, api.OK}, {with(brief(600, 600, 600), forbidden(7)), 10, nil, api.ErrNone},
	} {
		if l, e := bill.Best(x.b, x.at); !slices.Equal(l, x.want) || e != x.e {
			t.Errorf("Best %d: %v, %d", i, l, e)
		}
	}
}

// P6.6: the fewest places that must be left out.
func TestLeave(t *testing.T) {
	free := forbidden(0)
	for i, x := range []struct {
		evening
		want []int
	}{
		// the examples
		{evening{example(), []int{0, 2, 1}, 1300}, []int{1}}, {evening{example(), []int{0, 1}, 1325}, []int{0}}, {evening{example(), []int{2}, 1300}, []int{0}},
		// places, not films
		{evening{example(), []int{2, 0, 1}, 1300}, []int{0}}, {evening{example(), []int{0, 1, 2}, 1300}, []int{2}}, {evening{example(), []int{1, 0}, 1325}, []int{0}}, {evening{example(), []int{0, 1}, 1335}, []int{1}}, {evening{example(), []int{2, 1}, 1300}, []int{0}},
		// nothing, if it is fine
		{evening{example(), []int{0, 1}, 1313}, nil}, {evening{example(), []int{0}, 1338}, nil}, {evening{example(free), []int{0, 2, 1}, 1290}, nil},
		// all, if none can be shown
		{evening{example(), []int{2, 0, 1}, 1345}, []int{0, 1, 2}}, {evening{example(day(107)), []int{0, 1}, 1300}, []int{0, 1}}, {evening{example(), []int{0}, 1339}, []int{0}}, {evening{with(brief(600, 600, 600, 600, 600), forbidden(31)), []int{4, 3, 2, 1, 0}, 0}, []int{0, 1, 2, 3, 4}},
		// of several lists the first one, though what is left is over later
		{evening{example(free), []int{1, 0, 2}, 1300}, []int{0}}, {evening{with(brief(600, 600, 600), closes(12)), []int{0, 1, 2}, 10}, []int{0}}, {evening{with(brief(600, 600, 600), closes(11)), []int{2, 1, 0}, 10}, []int{0, 1}}, {evening{with(brief(600, 1200, 1200), closes(12)), []int{0, 1, 2}, 10}, []int{0, 1}}, {evening{with(brief(600, 600, 600, 600), closes(12), forbidden(8)), []int{0, 3, 1, 2}, 10}, []int{0, 1}}, {evening{with(brief(600, 600, 600, 600), closes(12), until(0, 11)), []int{1, 2, 3, 0}, 10}, []int{0, 3}},
		// fewer, though they come later, and by the fewer of two reasons
		{evening{with(brief(600, 600, 1200), closes(13)), []int{0, 1, 2}, 10}, []int{0}}, {evening{with(brief(600, 600, 1200), closes(12)), []int{0, 1, 2}, 10}, []int{2}}, {evening{with(brief(1200, 600, 600), closes(12)), []int{0, 1, 2}, 10}, []int{0}}, {evening{with(brief(600, 600), until(1, 11)), []int{0, 1}, 10}, []int{0}}, {evening{with(brief(600, 600), until(0, 11)), []int{0, 1}, 10}, nil}, {evening{with(brief(600, 600, 600), until(1, 11), until(0, 11)), []int{0, 1, 2}, 10}, []int{0}}, {evening{with(brief(600, 600, 600), until(2, 11)), []int{0, 1, 2}, 10}, []int{2}}, {evening{with(brief(600, 600, 600), from(0, 1400), until(1, 1300), until(2, 1300)), []int{0, 1, 2}, 10}, []int{0}},
		// the order stays: another one would need none left out
		{evening{with(brief(600, 600), from(0, 30), until(1, 20)), []int{0, 1}, 10}, []int{0}}, {evening{with(brief(600, 600), from(0, 30), until(1, 20)), []int{1, 0}, 10}, nil},
	} {
		if l, e := bill.Leave(x.b, x.bill, x.at); !slices.Equal(l, x.want) || e != api.OK {
			t.Errorf("Leave %d: %v, %d", i, l, e)
		}
	}
}

// P6.7: arguments are only read, what lies behind a list among them.
func TestArgumentsAreRead(t *testing.T) {
	for _, x := range []api.BillBook{example(), example(forbidden(0), closes(1330)), example(made(1, reel(5, 9, 800), reel(1, 4, 1000)))} {
		x.Town.Barred = append(x.Town.Barred, span(77, 78))[:len(x.Town.Barred)]
		x.Town.Held = append(x.Town.Held, api.LicencePaper{Kind: 77, First: 78})[:len(x.Town.Held)]
		x.Films = append(x.Films, api.BillFilm{Film: 77})[:len(x.Films)]
		for i := range x.Films {
			l := &x.Films[i].Reels.Reels
			*l = append(*l, reel(77, 78, 79))[:len(*l)]
		}
		a := asked{1, 1300, append([]int{2, 0, 1}, 77)[:3]}
		all := func() api.BillBook {
			b := x
			b.Town.Barred, b.Town.Held, b.Films = b.Town.Barred[:len(b.Town.Barred)+1], b.Town.Held[:len(b.Town.Held)+1], slices.Clone(b.Films[:len(b.Films)+1])
			for i := range x.Films {
				b.Films[i].Reels.Reels = b.Films[i].Reels.Reels[:len(b.Films[i].Reels.Reels)+1]
			}
			return b
		}
		old, oldBill := with(all()), slices.Clone(a.bill[:4])
		for _, c := range append(calls(), call{"Check", "", func(b api.BillBook, a asked) (string, api.Errno) { return "", bill.Check(b) }}) {
			c.ask(x, a)
			if now := all(); !isSame(now, old) || !slices.Equal(a.bill[:4], oldBill) {
				t.Errorf("%s changes its arguments: %v, %v", c.name, now, a.bill[:4])
			}
		}
	}
}

// isSame tells if all lists of two books have the same elements.
func isSame(one, other api.BillBook) bool {
	areSame := func(one, other api.BillFilm) bool {
		same := slices.Equal(one.Reels.Reels, other.Reels.Reels)
		one.Reels, other.Reels = api.ReelFilm{}, api.ReelFilm{}
		return same && one.Film == other.Film && one.Shows == other.Shows && one.From == other.From && one.Until == other.Until
	}
	return slices.Equal(one.Town.Kinds, other.Town.Kinds) && slices.Equal(one.Town.Barred, other.Town.Barred) && slices.Equal(one.Town.Held, other.Town.Held) && slices.EqualFunc(one.Films, other.Films, areSame)
}

// P6.7: a result keeps what it is if an argument or another result is changed.
func TestResultsAreNew(t *testing.T) {
	type answers struct {
		ends  []api.Span
		lists [][]int
	}
	ask := func(x api.BillBook, l []int) (a answers) {
		ends, e := bill.Ends(x, l, 1300)
		right(t, "Ends", e)
		why, e := bill.Why(x, l, 1300)
		right(t, "Why", e)
		best, e := bill.Best(x, 1300)
		right(t, "Best", e)
		leave, e := bill.Leave(x, l, 1300)
		right(t, "Leave", e)
		return answers{ends, [][]int{why, best, leave}}
	}
	isRight := func(a answers) bool {
		return slices.Equal(a.ends, []api.Span{span(1310, 1310), span(1324, 1327), span(1348, 1352)}) && slices.Equal(a.lists[0], []int{3, 0, 4}) && slices.Equal(a.lists[1], []int{0, 1}) && slices.Equal(a.lists[2], []int{0})
	}
	x, l := example(), []int{2, 0, 1}
	first := ask(x, l)
	clear(x.Town.Kinds)
	clear(x.Town.Barred)
	clear(x.Town.Held)
	for _, f := range x.Films {
		clear(f.Reels.Reels)
	}
	clear(x.Films)
	clear(l)
	if !isRight(first) {
		t.Errorf("a result shares memory with an argument: %v", first)
	}
	x, l = example(), []int{2, 0, 1}
	second := ask(x, l)
	clear(first.ends[:cap(first.ends)])
	for _, l := range first.lists {
		clear(l[:cap(l)])
	}
	if !isRight(second) || !isSame(x, example()) || !slices.Equal(l, []int{2, 0, 1}) {
		t.Errorf("after a change of earlier results: %v", second)
	}
	if again := ask(example(), []int{2, 0, 1}); !isRight(again) {
		t.Errorf("asked again after a change of results: %v", again)
	}
}

// right ends the test if there is an error.
func right(t *testing.T, name string, e api.Errno) {
	t.Helper()
	if e != api.OK {
		t.Fatalf("%s: %d", name, e)
	}
}

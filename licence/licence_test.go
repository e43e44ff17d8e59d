package licence_test

import (
	"math"
	"slices"
	"testing"

	"bioscope/api"
	"bioscope/licence"
)

// P5.1: why a film may not be shown, and the order of the errors.
func TestWhy(t *testing.T) {
	fine, noDay, shut, film, hour := api.LicenceFine, api.LicenceDay, api.LicenceBarred, api.LicenceFilm, api.LicenceHour
	two := example(held(0, 110, 1, 100))
	for i, x := range []struct {
		t                       api.LicenceTown
		day, film, minute, want int
		e                       api.Errno
	}{
		// the examples
		{example(), 101, 2, 1350, fine, api.OK}, {example(), 107, 2, 1350, noDay, api.OK}, {example(), 105, 2, 1350, shut, api.OK}, {example(), 101, 3, 1350, film, api.OK}, {example(), 101, 2, 1351, hour, api.OK},
		// the first and the last day of a licence, and of a bar
		{example(), 100, 2, 1350, fine, api.OK}, {example(), 99, 2, 1350, noDay, api.OK}, {example(barred()), 106, 2, 1350, fine, api.OK}, {example(barred()), 107, 2, 1350, noDay, api.OK}, {example(), 104, 2, 1350, fine, api.OK}, {example(), 106, 2, 1350, shut, api.OK}, {example(barred(span(0, 100), span(104, 200))), 100, 2, 0, shut, api.OK}, {example(barred(span(0, 100), span(104, 200))), 101, 2, 0, fine, api.OK}, {example(barred(span(0, 100), span(104, 200))), 103, 2, 0, fine, api.OK}, {example(barred(span(0, 100), span(104, 200))), 104, 2, 0, shut, api.OK},
		// of several reasons the first one
		{example(barred(span(0, 999))), 107, 3, 1351, noDay, api.OK}, {example(), 99, 3, 1439, noDay, api.OK}, {example(), 105, 3, 1351, shut, api.OK}, {example(), 101, 3, 1351, film, api.OK},
		// each film by itself, and the minutes at the ends
		{example(forbidden(1)), 101, 0, 0, film, api.OK}, {example(forbidden(1)), 101, 1, 0, fine, api.OK}, {example(forbidden(32768)), 101, 15, 0, film, api.OK}, {example(forbidden(32767)), 101, 15, 0, fine, api.OK}, {example(forbidden(65535)), 101, 7, 0, film, api.OK}, {example(closes(0)), 101, 2, 0, fine, api.OK}, {example(closes(0)), 101, 2, 1, hour, api.OK}, {example(closes(1439)), 101, 2, 1439, fine, api.OK},
		// several licences, in whatever order; none; those beyond the last day, and of the first one
		{two, 110, 2, 0, fine, api.OK}, {two, 100, 2, 0, fine, api.OK}, {two, 108, 2, 0, noDay, api.OK}, {two, 111, 2, 0, noDay, api.OK}, {example(held()), 101, 2, 0, noDay, api.OK}, {example(held(1, 998)), 999, 2, 0, fine, api.OK}, {example(held(1, 998)), 997, 2, 0, noDay, api.OK}, {example(held(0, 0)), 0, 2, 0, fine, api.OK}, {example(held(0, 0)), 1, 2, 0, noDay, api.OK}, {example(held(0, 104)), 104, 2, 0, fine, api.OK},
		// no days, films or minutes
		{example(), 1000, 2, 1350, 0, api.ErrLicenceAsk}, {example(), -1, 2, 1350, 0, api.ErrLicenceAsk}, {example(), 101, 16, 1350, 0, api.ErrLicenceAsk}, {example(), 101, -1, 1350, 0, api.ErrLicenceAsk}, {example(), 101, 2, 1440, 0, api.ErrLicenceAsk}, {example(), 101, 2, -1, 0, api.ErrLicenceAsk}, {example(held(1, 998)), 1000, 2, 0, 0, api.ErrLicenceAsk}, {example(), 107, 16, 0, 0, api.ErrLicenceAsk}, {example(), 107, 2, 1440, 0, api.ErrLicenceAsk}, {example(), math.MinInt, 2, 0, 0, api.ErrLicenceAsk}, {example(), 101, math.MaxInt, 0, 0, api.ErrLicenceAsk}, {example(), 101, math.MinInt, 0, 0, api.ErrLicenceAsk}, {example(), 101, 2, math.MaxInt, 0, api.ErrLicenceAsk},
	} {
		if n, e := licence.Why(x.t, x.day, x.film, x.minute); n != x.want || e != x.e {
			t.Errorf("Why %d: %d, %d", i, n, e)
		}
	}
}

// P5.2: the days on which something may be shown, and the order of the errors.
func TestDays(t *testing.T) {
	many := example(held(0, 110, 1, 100, 0, 98), barred(span(0, 100), span(105, 106)))
	for i, x := range []struct {
		t    api.LicenceTown
		days api.Span
		want []int
		e    api.Errno
	}{
		// the example
		{example(), span(98, 110), []int{100, 101, 102, 103, 104}, api.OK},
		{example(), span(0, 999), []int{100, 101, 102, 103, 104}, api.OK}, {example(), span(102, 103), []int{102, 103}, api.OK}, {example(), span(104, 104), []int{104}, api.OK}, {example(), span(105, 105), nil, api.OK}, {example(), span(105, 999), nil, api.OK}, {example(), span(0, 99), nil, api.OK}, {example(), span(0, 100), []int{100}, api.OK},
		{many, span(0, 999), []int{101, 102, 103, 104, 110}, api.OK}, {example(held()), span(0, 999), nil, api.OK}, {example(barred(span(0, 999))), span(0, 999), nil, api.OK}, {example(barred(span(102, 102), span(104, 104))), span(0, 999), []int{100, 101, 103, 105, 106}, api.OK}, {example(held(1, 997)), span(0, 999), []int{997, 998, 999}, api.OK}, {example(held(0, 0, 0, 999)), span(0, 999), []int{0, 999}, api.OK}, {example(held(0, 0)), span(0, 0), []int{0}, api.OK},
		// no spans of days
		{example(), span(0, 1000), nil, api.ErrLicenceAsk}, {example(), span(-1, 110), nil, api.ErrLicenceAsk}, {example(), span(101, 100), nil, api.ErrLicenceAsk}, {example(), span(1000, 1000), nil, api.ErrLicenceAsk}, {example(), span(-1, -1), nil, api.ErrLicenceAsk}, {example(), span(math.MinInt, math.MaxInt), nil, api.ErrLicenceAsk}, {example(), span(0, math.MaxInt), nil, api.ErrLicenceAsk}, {example(), span(math.MaxInt, math.MinInt), nil, api.ErrLicenceAsk},
	} {
		if l, e := licence.Days(x.t, x.days); !slices.Equal(l, x.want) || e != x.e {
			t.Errorf("Days %d: %v, %d", i, l, e)
		}
	}
}

// P5.3: what is a plan, and the error of IsPlan.
func TestIsPlan(t *testing.T) {
	eight := papers(0, 108, 0, 110, 0, 112, 0, 114, 0, 116, 0, 118, 0, 120, 0, 122)
	for i, x := range []struct {
		t     api.LicenceTown
		today int
		plan  []api.LicencePaper
		want  bool
		e     api.Errno
	}{
		// the examples
		{example(), 95, papers(0, 108), true, api.OK}, {example(), 95, papers(0, 107), false, api.OK}, {example(), 95, papers(1, 108), true, api.OK}, {example(), 99, papers(1, 108), false, api.OK},
		// just in time, and too late; by the notice of each one's own kind
		{example(), 98, papers(1, 108), true, api.OK}, {example(), 106, papers(0, 108), true, api.OK}, {example(), 107, papers(0, 108), false, api.OK}, {example(), 106, papers(0, 108, 1, 116), true, api.OK}, {example(), 106, papers(0, 108, 1, 115), false, api.OK}, {example(), 98, papers(1, 108, 0, 116), true, api.OK}, {example(), 99, papers(1, 108, 0, 116), false, api.OK}, {example(notice(0, 0)), 108, papers(0, 108), true, api.OK}, {example(notice(0, 0)), 109, papers(0, 108), false, api.OK}, {example(notice(0, 30)), 78, papers(0, 108), true, api.OK}, {example(notice(0, 30)), 79, papers(0, 108), false, api.OK}, {example(), 999, papers(0, 108), false, api.OK},
		// before what is held, among it, behind it, on it
		{example(), 50, papers(0, 98), true, api.OK}, {example(), 50, papers(0, 99), false, api.OK}, {example(), 50, papers(1, 92), true, api.OK}, {example(), 50, papers(1, 93), false, api.OK}, {example(), 50, papers(0, 103), false, api.OK}, {example(), 50, papers(1, 100), false, api.OK}, {example(held(1, 110, 1, 100)), 50, papers(0, 108), true, api.OK}, {example(held(1, 109, 1, 100)), 50, papers(0, 108), false, api.OK}, {example(held(1, 109, 1, 100)), 50, papers(0, 107), false, api.OK}, {example(held(1, 109, 1, 100)), 50, papers(0, 117), true, api.OK}, {example(), 50, papers(0, 98, 0, 108), true, api.OK}, {example(), 50, papers(0, 98, 0, 107), false, api.OK}, {example(pause(0)), 50, papers(0, 99, 0, 107), true, api.OK}, {example(pause(0)), 50, papers(0, 106), false, api.OK},
		// with each other: the pause, one day, the order
		{example(), 95, papers(0, 108, 0, 110), true, api.OK}, {example(), 95, papers(0, 108, 0, 109), false, api.OK}, {example(), 95, papers(0, 108, 0, 108), false, api.OK}, {example(), 95, papers(0, 110, 0, 108), false, api.OK}, {example(), 95, papers(1, 108, 0, 116), true, api.OK}, {example(), 95, papers(1, 108, 0, 115), false, api.OK}, {example(), 95, papers(1, 108, 0, 110), false, api.OK}, {example(pause(0)), 95, papers(1, 108, 0, 115), true, api.OK}, {example(pause(0)), 95, papers(1, 108, 0, 114), false, api.OK}, {example(pause(0)), 95, papers(0, 108, 0, 108), false, api.OK}, {example(pause(20), held()), 95, papers(1, 108, 0, 135), true, api.OK}, {example(pause(20), held()), 95, papers(1, 108, 0, 134), false, api.OK},
		// none, eight, nine
		{example(), 95, nil, true, api.OK}, {example(), 999, nil, true, api.OK}, {example(held()), 0, nil, true, api.OK}, {example(), 95, eight, true, api.OK}, {example(), 95, append(eight, papers(0, 124)...), false, api.OK}, {example(), 95, append(papers(0, 98), eight...), false, api.OK},
		// also on barred days, and beyond the last one
		{example(held()), 95, papers(0, 105), true, api.OK}, {example(), 95, papers(1, 999), true, api.OK}, {example(), 95, papers(0, 997, 0, 999), true, api.OK},
		// no licences
		{example(), 95, papers(2, 108), false, api.OK}, {example(), 95, papers(-1, 108), false, api.OK}, {example(), 95, papers(0, 1000), false, api.OK}, {example(notice(0, 0)), 0, papers(0, -1), false, api.OK}, {example(), 95, papers(0, 108, 2, 120), false, api.OK}, {example(), 95, papers(math.MaxInt, 108), false, api.OK}, {example(), 95, papers(0, math.MaxInt), false, api.OK}, {example(), 95, papers(0, math.MinInt), false, api.OK}, {example(), 95, make([]api.LicencePaper, 1000), false, api.OK},
		// no days
		{example(), 1000, nil, false, api.ErrLicenceAsk}, {example(), -1, papers(0, 108), false, api.ErrLicenceAsk}, {example(), -1, papers(2, 108), false, api.ErrLicenceAsk}, {example(), math.MaxInt, papers(0, 108), false, api.ErrLicenceAsk}, {example(), math.MinInt, papers(0, 108), false, api.ErrLicenceAsk},
	} {
		if is, e := licence.IsPlan(x.t, x.today, x.plan); is != x.want || e != x.e {
			t.Errorf("IsPlan %d: %v, %d", i, is, e)
		}
	}
}

// notWanted are lists of days that cannot be wanted.
func notWanted() [][]int {
	return [][]int{{-1}, {1000}, {5, 5}, {6, 5}, {1, 2, 3, 3}, {101, 108, 110, 1000}, {-1, 0}, {1, 2, 3, 4, 5, 6, 7, 8, 9}, {math.MaxInt}, {math.MinInt}, {0, math.MaxInt}, {math.MinInt, math.MaxInt}}
}

// P5.3: the days that a plan does not cover, and the errors of Lacking.
func TestLacking(t *testing.T) {
	nine := papers(0, 1, 0, 3, 0, 5, 0, 7, 0, 9, 0, 11, 0, 13, 0, 15, 0, 17)
	for i, x := range []struct {
		t            api.LicenceTown
		plan         []api.LicencePaper
		wanted, want []int
		e            api.Errno
	}{
		// the example
		{example(), papers(0, 108, 0, 112), fair(), []int{110}, api.OK},
		{example(), nil, fair(), []int{108, 110, 112}, api.OK}, {example(), papers(0, 112, 0, 110, 0, 108), fair(), nil, api.OK}, {example(), papers(1, 108), fair(), nil, api.OK}, {example(), papers(1, 106), fair(), nil, api.OK}, {example(), papers(1, 105), fair(), []int{112}, api.OK}, {example(), papers(1, 109), fair(), []int{108}, api.OK}, {example(held()), papers(0, 110), fair(), []int{101, 108, 112}, api.OK},
		// they need not go together, with each other or with those that are held, nor be asked for
		{example(), papers(0, 108, 0, 108), []int{108}, nil, api.OK}, {example(), papers(1, 101), []int{100, 106, 107, 108}, []int{106, 108}, api.OK}, {example(), papers(0, 109, 0, 108), []int{108, 109, 110}, []int{110}, api.OK}, {example(), papers(0, 0), []int{0, 1}, []int{1}, api.OK},
		// barred days, also if a licence covers them; the last days
		{example(), nil, []int{101, 105, 107}, []int{105, 107}, api.OK}, {example(), papers(0, 105, 0, 106), []int{104, 105, 106}, []int{105, 106}, api.OK}, {example(barred(span(108, 110))), papers(1, 108), fair(), []int{108, 110}, api.OK}, {example(), papers(1, 995), []int{994, 995, 999}, []int{994}, api.OK}, {example(), papers(0, 999), []int{998, 999}, []int{998}, api.OK},
		// none, eight of each
		{example(), nil, nil, nil, api.OK}, {example(), papers(0, 108), nil, nil, api.OK}, {example(), nine[:8], []int{1, 2, 3, 4, 5, 7, 15, 16}, []int{2, 4, 16}, api.OK}, {example(), nil, []int{1, 2, 3, 4, 5, 6, 7, 8}, []int{1, 2, 3, 4, 5, 6, 7, 8}, api.OK}, {example(), nil, []int{0, 999}, []int{0, 999}, api.OK},
		// no licences
		{example(), nine, fair(), nil, api.ErrLicenceAsk}, {example(), papers(2, 108), fair(), nil, api.ErrLicenceAsk}, {example(), papers(-1, 108), nil, nil, api.ErrLicenceAsk}, {example(), papers(0, 108, 2, 110), nil, nil, api.ErrLicenceAsk}, {example(), papers(0, -1), fair(), nil, api.ErrLicenceAsk}, {example(), papers(0, 1000), fair(), nil, api.ErrLicenceAsk}, {example(), papers(0, math.MaxInt), fair(), nil, api.ErrLicenceAsk}, {example(), papers(math.MinInt, 0), fair(), nil, api.ErrLicenceAsk}, {example(), make([]api.LicencePaper, 9), nil, nil, api.ErrLicenceAsk},
	} {
		if l, e := licence.Lacking(x.t, x.plan, x.wanted); !slices.Equal(l, x.want) || e != x.e {
			t.Errorf("Lacking %d: %v, %d", i, l, e)
		}
	}
}

// P5.3 to P5.6: which days cannot be wanted.
func TestNotWanted(t *testing.T) {
	for _, wanted := range notWanted() {
		for _, c := range calls() {
			if !slices.Contains([]string{"Lacking", "Cheapest", "Fee", "Latest", "Most"}, c.name) {
				continue
			}
			for _, x := range []api.LicenceTown{example(), example(barred(span(0, 999)))} {
				if got, e := c.ask(x, asked{wanted: wanted}); got != c.zero || e != api.ErrLicenceAsk {
					t.Errorf("%s for %v: %s, %d", c.name, wanted, got, e)
				}
			}
		}
	}
}

// P5.4 to P5.6: today is a day, and what is wrong is told before that there is none.
func TestNoToday(t *testing.T) {
	for _, today := range []int{-1, 1000, math.MaxInt, math.MinInt} {
		for _, c := range calls() {
			if !slices.Contains([]string{"IsPlan", "Cheapest", "Fee", "Most"}, c.name) {
				continue
			}
			for _, wanted := range [][]int{nil, fair(), {105}} {
				if got, e := c.ask(example(), asked{day: today, wanted: wanted}); got != c.zero || e != api.ErrLicenceAsk {
					t.Errorf("%s on %d: %s, %d", c.name, today, got, e)
				}
			}
		}
	}
}

// P5.4 and P5.5: the cheapest plans, what they cost, and until when there is one.
func TestCheapest(t *testing.T) {
	one, seven := kind(1, 4, 0), kind(7, 20, 0)
	for i, x := range []struct {
		t         api.LicenceTown
		today     int
		wanted    []int
		fee, many int
		e         api.Errno
		latest    int
		late      api.Errno
	}{
		// the examples
		{example(), 95, fair(), 15, 3, api.OK, 106, api.OK}, {example(fee(0, 8)), 95, fair(), 20, 1, api.OK, 106, api.OK}, {example(fee(0, 8), pause(2)), 95, fair(), 0, 0, api.ErrNone, 0, api.ErrNone}, {example(), 95, []int{101, 105, 108, 110, 112}, 0, 0, api.ErrNone, 0, api.ErrNone},
		// until just in time
		{example(), 106, fair(), 15, 3, api.OK, 106, api.OK}, {example(), 107, fair(), 0, 0, api.ErrNone, 106, api.OK}, {example(fee(0, 8)), 98, fair(), 20, 1, api.OK, 106, api.OK}, {example(fee(0, 8)), 99, fair(), 24, 3, api.OK, 106, api.OK}, {example(notice(0, 0), held()), 108, []int{108}, 5, 1, api.OK, 108, api.OK}, {example(notice(0, 30), notice(1, 30)), 0, []int{30}, 5, 1, api.OK, 0, api.OK}, {example(notice(0, 30), notice(1, 30)), 0, []int{29}, 0, 0, api.ErrNone, 0, api.ErrNone}, {example(notice(0, 30), notice(1, 30)), 1, []int{30}, 0, 0, api.ErrNone, 0, api.OK}, {example(notice(1, 1)), 0, []int{0}, 0, 0, api.ErrNone, 0, api.ErrNone}, {bare(kind(30, 1, 0)), 999, []int{999}, 1, 1, api.OK, 999, api.OK},
		// nothing is wanted, or held licences cover it, also if it is past; barred days are never covered
		{example(), 95, nil, 0, 0, api.OK, 999, api.OK}, {example(), 999, []int{100, 101, 104}, 0, 0, api.OK, 999, api.OK}, {example(), 95, []int{105}, 0, 0, api.ErrNone, 0, api.ErrNone}, {example(held()), 95, []int{105}, 0, 0, api.ErrNone, 0, api.ErrNone}, {example(held(), barred(span(104, 104), span(107, 110))), 95, []int{105, 106}, 20, 1, api.OK, 95, api.OK}, {example(held(), barred(span(106, 106))), 95, []int{105, 107}, 10, 2, api.OK, 103, api.OK},
		// as dear, but with fewer licences; cheaper with more; for nothing
		{bare(one, seven), 0, []int{5, 6}, 8, 2, api.OK, 5, api.OK}, {bare(kind(1, 10, 0), seven), 0, []int{5, 6}, 20, 1, api.OK, 5, api.OK}, {bare(kind(7, 20, 0), kind(1, 10, 0)), 0, []int{5, 6}, 20, 1, api.OK, 5, api.OK}, {bare(kind(1, 0, 0), kind(2, 0, 0)), 0, []int{5, 6, 7}, 0, 2, api.OK, 5, api.OK}, {bare(kind(2, 0, 0), kind(1, 0, 0)), 0, []int{5, 6, 7, 8}, 0, 2, api.OK, 5, api.OK}, {bare(kind(7, 20, 0), kind(1, 20, 0)), 0, []int{5}, 20, 1, api.OK, 5, api.OK}, {bare(kind(1, 0, 9), seven), 0, []int{5}, 20, 1, api.OK, 5, api.OK},
		// it begins sooner than it must, or later than it could, so that another one has room
		{bare(kind(3, 2, 0)), 0, []int{0, 2, 3, 5}, 4, 2, api.OK, 0, api.OK}, {bare(kind(3, 2, 0)), 1, []int{1, 2, 4, 5}, 4, 2, api.OK, 1, api.OK}, {bare(kind(3, 2, 0)), 0, []int{2, 3}, 2, 1, api.OK, 2, api.OK}, {with(bare(kind(3, 2, 0)), pause(2)), 0, []int{4, 7}, 4, 2, api.OK, 2, api.OK}, {with(bare(kind(3, 2, 0)), pause(2)), 2, []int{4, 7}, 4, 2, api.OK, 2, api.OK}, {with(bare(kind(3, 2, 0)), pause(2)), 3, []int{4, 7}, 0, 0, api.ErrNone, 2, api.OK}, {with(bare(kind(3, 2, 0)), pause(4)), 0, []int{4, 9}, 4, 2, api.OK, 2, api.OK}, {with(bare(kind(3, 2, 0)), pause(3)), 0, []int{2, 3, 4, 8}, 4, 2, api.OK, 2, api.OK}, {with(bare(kind(3, 2, 0)), pause(4)), 0, []int{2, 3, 4, 8}, 0, 0, api.ErrNone, 0, api.ErrNone},
		// before the licence that is held, and behind it, with a pause; between two
		{example(), 0, []int{97, 98, 99}, 0, 0, api.ErrNone, 0, api.ErrNone}, {example(), 0, []int{97, 98}, 20, 1, api.OK, 82, api.OK}, {example(pause(0)), 0, []int{97, 98, 99}, 15, 3, api.OK, 95, api.OK}, {example(), 0, []int{98, 100, 108}, 10, 2, api.OK, 96, api.OK}, {example(), 0, []int{98, 107}, 0, 0, api.ErrNone, 0, api.ErrNone}, {example(held(0, 104, 0, 98), barred()), 0, []int{100, 101, 102}, 0, 0, api.ErrNone, 0, api.ErrNone}, {example(held(0, 104, 0, 98), barred(), daysOf(1, 3)), 0, []int{100, 101, 102}, 20, 1, api.OK, 90, api.OK}, {example(held(0, 103, 0, 98), barred(), daysOf(1, 3)), 0, []int{100, 101}, 0, 0, api.ErrNone, 0, api.ErrNone},
		// a pause that is too long for the short ones only
		{example(pause(2)), 95, []int{109, 110, 115}, 20, 1, api.OK, 99, api.OK}, {example(pause(3), fee(1, 15)), 95, fair(), 0, 0, api.ErrNone, 0, api.ErrNone}, {example(fee(1, 15)), 95, fair(), 15, 1, api.OK, 106, api.OK},
		// eight days, by eight licences, by one
		{bare(kind(1, 1000, 0)), 0, []int{0, 1, 2, 3, 4, 5, 6, 7}, 8000, 8, api.OK, 0, api.OK}, {bare(kind(1, 1000, 0), kind(8, 1000, 0)), 0, []int{992, 993, 994, 995, 996, 997, 998, 999}, 1000, 1, api.OK, 992, api.OK}, {bare(kind(30, 7, 30)), 0, []int{100, 200, 300, 400, 500, 600, 700, 999}, 56, 8, api.OK, 70, api.OK}, {with(bare(kind(30, 7, 0), kind(1, 1, 0)), pause(20)), 0, []int{50, 71, 92, 113, 134, 155, 176, 197}, 8, 8, api.OK, 50, api.OK},
		// licences that cover days beyond the last one
		{with(bare(kind(30, 7, 0)), pause(20)), 0, []int{970, 999}, 7, 1, api.OK, 970, api.OK}, {bare(kind(30, 7, 0)), 0, []int{969, 999}, 14, 2, api.OK, 969, api.OK}, {with(bare(kind(30, 7, 0), kind(1, 8, 0)), held(0, 990)), 0, []int{989, 999}, 7, 1, api.OK, 989, api.OK},
		{api.LicenceTown{}, 95, nil, 0, 0, api.ErrLicence, 0, api.ErrLicence},
	} {
		n, e := licence.Fee(x.t, x.today, x.wanted)
		l, f := licence.Cheapest(x.t, x.today, x.wanted)
		if n != x.fee || e != x.e || f != x.e || len(l) != x.many {
			t.Errorf("Fee and Cheapest %d: %d, %d, %v, %d", i, n, e, l, f)
		}
		if e == api.OK {
			isRightPlan(t, x.t, x.today, x.wanted, l, n)
		}
		if n, e := licence.Latest(x.t, x.wanted); n != x.latest || e != x.late {
			t.Errorf("Latest %d: %d, %d", i, n, e)
		}
	}
	l, _ := licence.Cheapest(example(), 95, fair())
	if !slices.Equal(l, papers(0, 108, 0, 110, 0, 112)) {
		t.Errorf("Cheapest of the example: %v", l)
	}
}

// P5.6: the most days for some money, and the errors.
func TestMost(t *testing.T) {
	two := bare(kind(2, 7, 0), kind(1, 6, 0))
	free := bare(kind(1, 0, 5), kind(3, 9, 0))
	for i, x := range []struct {
		t      api.LicenceTown
		today  int
		wanted []int
		money  int
		want   []int
		e      api.Errno
	}{
		// the examples
		{example(), 95, fair(), 10, []int{101, 108, 110}, api.OK}, {example(), 95, fair(), 4, []int{101}, api.OK}, {example(), 95, fair(), 20, fair(), api.OK},
		{example(), 95, fair(), 5, []int{101, 108}, api.OK}, {example(), 95, fair(), 9, []int{101, 108}, api.OK}, {example(), 95, fair(), 14, []int{101, 108, 110}, api.OK}, {example(), 95, fair(), 15, fair(), api.OK}, {example(), 95, fair(), 0, []int{101}, api.OK}, {example(), 95, fair(), 8000, fair(), api.OK}, {example(held()), 95, fair(), 5, []int{101}, api.OK}, {example(held()), 95, fair(), 4, nil, api.OK}, {example(fee(1, 9)), 95, fair(), 9, fair(), api.OK},
		// as many days for less money, though they come later
		{two, 0, []int{3, 7, 8}, 13, []int{3, 7, 8}, api.OK}, {two, 0, []int{3, 7, 8}, 12, []int{7, 8}, api.OK}, {two, 0, []int{3, 7, 8}, 7, []int{7, 8}, api.OK}, {two, 0, []int{3, 7, 8}, 6, []int{3}, api.OK}, {two, 0, []int{3, 7, 8}, 5, nil, api.OK}, {two, 0, []int{3, 4, 7, 8}, 13, []int{3, 4, 7}, api.OK}, {bare(kind(1, 9, 0), kind(1, 5, 8)), 0, []int{3, 8, 9}, 9, []int{8}, api.OK}, {bare(kind(1, 9, 0), kind(1, 5, 8)), 0, []int{3, 8, 9}, 14, []int{8, 9}, api.OK}, {bare(kind(1, 9, 0), kind(1, 5, 8)), 2, []int{3, 8, 9}, 14, []int{3}, api.OK},
		// as many for as much: the first ones
		{bare(kind(2, 7, 0)), 0, []int{1, 3, 5}, 14, []int{1, 3}, api.OK}, {bare(kind(2, 7, 0)), 0, []int{1, 2, 4, 5, 7, 8}, 14, []int{1, 2, 4, 5}, api.OK}, {bare(kind(3, 7, 0)), 0, []int{1, 3, 5, 7}, 7, []int{1, 3}, api.OK}, {bare(kind(3, 7, 0)), 0, []int{1, 4, 6, 8}, 14, []int{1, 4, 6}, api.OK}, {bare(kind(3, 7, 0)), 0, []int{1, 4, 7, 9}, 14, []int{1, 7, 9}, api.OK}, {bare(kind(3, 7, 0)), 2, []int{1, 3, 5, 7}, 7, []int{3, 5}, api.OK},
		// what is too late, barred, in a pause; licences for nothing
		{example(), 107, fair(), 100, []int{101, 110, 112}, api.OK}, {example(), 999, fair(), 8000, []int{101}, api.OK}, {example(), 95, []int{105, 106, 108}, 100, []int{108}, api.OK}, {example(), 95, []int{105, 106, 107}, 8000, nil, api.OK}, {example(pause(2)), 95, fair(), 8000, []int{101, 110, 112}, api.OK}, {example(pause(2)), 95, fair(), 19, []int{101, 110}, api.OK}, {example(held(), barred()), 95, []int{104, 105, 106}, 10, []int{104, 106}, api.OK}, {free, 0, []int{3, 4, 5, 6}, 0, []int{5, 6}, api.OK}, {free, 0, []int{3, 4, 5, 6}, 9, []int{3, 4, 5, 6}, api.OK}, {free, 0, []int{3, 4, 5, 6}, 8, []int{5, 6}, api.OK}, {example(held(0, 110), barred(span(110, 110))), 95, []int{108, 110, 112}, 5, []int{108}, api.OK},
		// with a licence that is held between others the first days are told, too
		{example(held(0, 110)), 95, []int{108, 110, 112}, 5, []int{108, 110}, api.OK}, {example(held(0, 110)), 107, []int{108, 110, 112}, 5, []int{110, 112}, api.OK},
		// nothing is wanted; eight days
		{example(), 95, nil, 0, nil, api.OK}, {example(), 95, nil, 8000, nil, api.OK}, {bare(kind(1, 1000, 0)), 0, []int{0, 1, 2, 3, 4, 5, 6, 7}, 8000, []int{0, 1, 2, 3, 4, 5, 6, 7}, api.OK}, {bare(kind(1, 1000, 0)), 0, []int{0, 1, 2, 3, 4, 5, 6, 7}, 7999, []int{0, 1, 2, 3, 4, 5, 6}, api.OK}, {bare(kind(1, 1000, 0)), 4, []int{0, 1, 2, 3, 4, 5, 6, 7}, 2500, []int{4, 5}, api.OK},
		// no money
		{example(), 95, fair(), -1, nil, api.ErrLicenceAsk}, {example(), 95, fair(), 8001, nil, api.ErrLicenceAsk}, {example(), 95, nil, math.MaxInt, nil, api.ErrLicenceAsk}, {example(), 95, nil, math.MinInt, nil, api.ErrLicenceAsk}, {api.LicenceTown{}, 95, nil, -1, nil, api.ErrLicence},
	} {
		if l, e := licence.Most(x.t, x.today, x.wanted, x.money); !slices.Equal(l, x.want) || e != x.e {
			t.Errorf("Most %d: %v, %d", i, l, e)
		}
	}
}

// P5.7: whether an evening is over in time, and the errors.
func TestOver(t *testing.T) {
	for i, x := range []struct {
		t     api.LicenceTown
		begin int
		lasts api.Span
		want  int
		e     api.Errno
	}{
		// the examples
		{example(), 1200, span(140, 150), 2, api.OK}, {example(), 1200, span(150, 160), 1, api.OK}, {example(), 1200, span(151, 160), 0, api.OK},
		{example(), 1200, span(150, 150), 2, api.OK}, {example(), 1200, span(151, 151), 0, api.OK}, {example(), 1200, span(150, 151), 1, api.OK}, {example(), 1350, span(0, 0), 2, api.OK}, {example(), 1351, span(0, 0), 0, api.OK}, {example(), 1350, span(0, 1439), 1, api.OK}, {example(), 0, span(0, 1439), 1, api.OK}, {example(), 0, span(0, 1350), 2, api.OK}, {example(closes(1439)), 0, span(1439, 1439), 2, api.OK}, {example(closes(1439)), 1, span(1439, 1439), 0, api.OK}, {example(closes(1439)), 1439, span(0, 0), 2, api.OK}, {example(closes(0)), 0, span(0, 0), 2, api.OK}, {example(closes(0)), 0, span(0, 1), 1, api.OK}, {example(closes(0)), 1, span(0, 0), 0, api.OK}, {example(), 1439, span(1439, 1439), 0, api.OK},
		// no minutes, no spans
		{example(), 1440, span(0, 1), 0, api.ErrLicenceAsk}, {example(), -1, span(0, 1), 0, api.ErrLicenceAsk}, {example(), 0, span(0, 1440), 0, api.ErrLicenceAsk}, {example(), 0, span(-1, 5), 0, api.ErrLicenceAsk}, {example(), 0, span(5, 4), 0, api.ErrLicenceAsk}, {example(), 0, span(1440, 1440), 0, api.ErrLicenceAsk}, {example(), 0, span(-2, -1), 0, api.ErrLicenceAsk}, {example(), math.MaxInt, span(1, 1), 0, api.ErrLicenceAsk}, {example(), math.MinInt, span(1, 1), 0, api.ErrLicenceAsk}, {example(), 1, span(0, math.MaxInt), 0, api.ErrLicenceAsk}, {example(), 1, span(math.MinInt, 1), 0, api.ErrLicenceAsk}, {example(), 1, span(math.MaxInt, math.MaxInt), 0, api.ErrLicenceAsk},
	} {
		if n, e := licence.Over(x.t, x.begin, x.lasts); n != x.want || e != x.e {
			t.Errorf("Over %d: %d, %d", i, n, e)
		}
	}
}

// P5.8: arguments are only read, what lies behind a list among them.
func TestArgumentsAreRead(t *testing.T) {
	for _, x := range []api.LicenceTown{example(held(0, 120, 1, 100)), example(fee(0, 8), held(0, 130, 0, 120)), example(barred(span(0, 0))), example(held())} {
		x.Kinds = append(x.Kinds, kind(77, 78, 79))[:len(x.Kinds)]
		x.Barred = append(x.Barred, span(77, 78))[:len(x.Barred)]
		x.Held = append(x.Held, papers(77, 78, 79, 80, 81, 82)...)[:len(x.Held)]
		a := asked{95, 2, 1300, 10, append(fair(), 77)[:4], papers(0, 112, 0, 108, 77, 78)[:2], span(90, 120)}
		all := func() api.LicenceTown {
			return api.LicenceTown{Kinds: x.Kinds[:len(x.Kinds)+1], Barred: x.Barred[:len(x.Barred)+1], Held: x.Held[:len(x.Held)+3]}
		}
		old, oldWanted, oldPlan := with(all()), slices.Clone(a.wanted[:5]), slices.Clone(a.plan[:3])
		for _, c := range calls() {
			c.ask(x, a)
			now := all()
			if !slices.Equal(now.Kinds, old.Kinds) || !slices.Equal(now.Barred, old.Barred) || !slices.Equal(now.Held, old.Held) || !slices.Equal(a.wanted[:5], oldWanted) || !slices.Equal(a.plan[:3], oldPlan) {
				t.Errorf("%s changes its arguments: %v, %v, %v", c.name, now, a.wanted[:5], a.plan[:3])
			}
		}
	}
}

// P5.8: a result keeps what it is if an argument or another result is changed.
func TestResultsAreNew(t *testing.T) {
	ask := func(x api.LicenceTown, wanted []int) (plan []api.LicencePaper, days [][]int) {
		plan, e := licence.Cheapest(x, 95, wanted)
		right(t, "Cheapest", e)
		open, e := licence.Days(x, span(98, 110))
		right(t, "Days", e)
		lacking, e := licence.Lacking(x, nil, wanted)
		right(t, "Lacking", e)
		most, e := licence.Most(x, 95, wanted, 8000)
		right(t, "Most", e)
		return plan, [][]int{open, lacking, most}
	}
	isSame := func(plan []api.LicencePaper, days [][]int) bool {
		return slices.Equal(plan, papers(0, 108, 0, 110, 0, 112)) && slices.Equal(days[0], []int{100, 101, 102, 103, 104}) && slices.Equal(days[1], fair()[1:]) && slices.Equal(days[2], fair())
	}
	x, wanted := example(), fair()
	plan, days := ask(x, wanted)
	clear(x.Kinds)
	clear(x.Barred)
	clear(x.Held)
	clear(wanted)
	if !isSame(plan, days) {
		t.Errorf("a result shares memory with an argument: %v, %v", plan, days)
	}
	x, wanted = example(), fair()
	other, others := ask(x, wanted)
	clear(plan[:cap(plan)])
	for _, l := range days {
		clear(l[:cap(l)])
	}
	if !isSame(other, others) || !slices.Equal(x.Held, papers(1, 100)) || !slices.Equal(wanted, fair()) {
		t.Errorf("after a change of earlier results: %v, %v", other, others)
	}
	if again, agains := ask(example(), fair()); !isSame(again, agains) {
		t.Errorf("asked again after a change of results: %v, %v", again, agains)
	}
}

// right ends the test if there is an error.
func right(t *testing.T, name string, e api.Errno) {
	t.Helper()
	if e != api.OK {
		t.Fatalf("%s: %d", name, e)
	}
}

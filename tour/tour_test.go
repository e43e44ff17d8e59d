package tour_test

import (
	"slices"
	"testing"

	"bioscope/api"
	"bioscope/tour"
)

// all lets something be shown on both days of the last fair of the examples.
func all(b *api.TourBook) { b.Towns[2].Licence = licences(2, 6, 3, 20) }

// far is a book in which the road by way of a town where nothing is shown is the only one that is short enough.
func far(b *api.TourBook) {
	b.Towns[0].Licence.Held, b.Towns[1].Take, b.Cost = nil, span(90, 90), 2
	b.Roads = [][]int{{0, 9, 1}, {9, 0, 2}, {1, 2, 0}}
}

// row are four towns with one fair after the other.
func row(b *api.TourBook) {
	towns(4)(b)
	for i := range b.Towns {
		fair(i, 10+3*i, 12+3*i)(b)
		papers(i, open(5))(b)
	}
}

// P7.1: on which days of a fair something may be shown.
func TestShown(t *testing.T) {
	for i, x := range []struct {
		b    api.TourBook
		town int
		want []int
	}{
		// the examples
		{example(), 0, []int{10, 11, 12}}, {example(), 1, []int{13, 15}}, {example(), 2, nil},
		// only days of the fair, only days with a licence
		{example(fair(0, 8, 11)), 0, []int{10, 11}}, {example(fair(0, 12, 19)), 0, []int{12}}, {example(fair(0, 13, 20)), 0, nil}, {example(fair(0, 3, 9)), 0, nil}, {example(fair(0, 11, 11)), 0, []int{11}}, {example(fair(1, 9, 16)), 1, []int{9, 10, 11, 12, 13, 15}}, {example(all), 2, []int{20, 21}}, {example(papers(2, licences(2, 6, 3, 19))), 2, []int{20}}, {example(papers(2, licences(2, 6, 3, 21))), 2, []int{21}}, {example(papers(2, licences(1, 6, 3, 21, 20))), 2, []int{20, 21}}, {example(fair(1, 13, 20), papers(1, licences(1, 0, 0, 20, 13, 16))), 1, []int{13, 16, 20}},
		// none that is barred
		{example(barred(0, span(10, 10), span(12, 12))), 0, []int{11}}, {example(barred(0, span(0, 999))), 0, nil}, {example(barred(1)), 1, []int{13, 14, 15}}, {example(barred(0, span(0, 9), span(13, 999))), 0, []int{10, 11, 12}},
		// the first and the last day of all
		{example(fair(0, 0, 2), papers(0, licences(1, 5, 1, 0))), 0, []int{0}}, {example(fair(0, 997, 999), papers(0, licences(3, 5, 1, 998))), 0, []int{998, 999}}, {example(fair(0, 992, 999), papers(0, open(990))), 0, []int{992, 993, 994, 995, 996, 997, 998, 999}},
		// it does not matter where the cinema is, and when
		{example(begin(11)), 0, []int{10, 11, 12}}, {example(from(2), begin(500)), 1, []int{13, 15}},
	} {
		if l, e := tour.Shown(x.b, x.town); !slices.Equal(l, x.want) || e != api.OK {
			t.Errorf("Shown %d: %v, %d", i, l, e)
		}
	}
}

// P7.1: what is a tour.
func TestIsTour(t *testing.T) {
	one, back := road(0, 1, 5), road(1, 0, 5)
	for i, x := range []struct {
		b    api.TourBook
		tour []api.TourStay
		want bool
	}{
		// the examples
		{example(), stays(0, 10, 12, 1, 13, 15), true}, {example(), stays(0, 10, 12, 2, 14, 21), false}, {example(), stays(1, 9, 15), false}, {example(), stays(1, 10, 15), true},
		// none, one, all
		{example(), nil, true}, {example(), stays(2, 20, 21), true}, {example(), stays(0, 10, 12, 1, 13, 15, 2, 20, 21), true}, {example(), stays(2, 12, 12, 1, 14, 14, 0, 15, 15), true}, {example(row), stays(3, 10, 10, 1, 11, 11, 0, 12, 12, 2, 13, 13), true},
		// just behind the road, and a day sooner
		{example(), stays(0, 9, 9), true}, {example(), stays(0, 8, 9), false}, {example(), stays(1, 10, 10), true}, {example(), stays(1, 9, 9), false}, {example(), stays(2, 12, 12), true}, {example(), stays(2, 11, 11), false}, {example(begin(10)), stays(0, 10, 12), true}, {example(begin(11)), stays(0, 10, 12), false}, {example(), stays(0, 10, 12, 2, 15, 15), true}, {example(), stays(1, 10, 10, 2, 12, 12), true}, {example(), stays(1, 10, 10, 2, 11, 12), false}, {example(), stays(1, 10, 10, 2, 12, 12, 0, 14, 15), false}, {example(), stays(1, 10, 10, 2, 12, 12, 0, 15, 15), true},
		// from where the cinema is, and by the last day of the stay before
		{example(from(1)), stays(1, 9, 9), true}, {example(from(1)), stays(0, 9, 9), false}, {example(from(2)), stays(0, 11, 12), false}, {example(from(2)), stays(0, 12, 12), true}, {example(), stays(0, 10, 14, 1, 14, 15), false}, {example(), stays(0, 10, 14, 1, 15, 15), true},
		// a road and the one back need not be as long
		{example(one), stays(1, 13, 15), false}, {example(one), stays(1, 14, 15), true}, {example(one, from(1)), stays(0, 10, 12), true}, {example(back), stays(1, 10, 10), true}, {example(back, from(1)), stays(0, 13, 13), false}, {example(one), stays(0, 10, 12, 1, 16, 16), false}, {example(one), stays(0, 10, 12, 1, 17, 17), true}, {example(one), stays(1, 14, 14, 0, 15, 15), true}, {example(back), stays(1, 10, 10, 0, 14, 14), false}, {example(back), stays(1, 10, 10, 0, 15, 15), true},
		// it may wait, and be where there is no fair, or no licence
		{example(), stays(0, 500, 600, 2, 700, 700), true}, {example(barred(0, span(0, 999))), stays(0, 10, 12), true},
		// the last day of all
		{example(), stays(0, 9, 999), true}, {example(), stays(0, 999, 999), true}, {example(begin(999)), stays(0, 999, 999), true}, {example(begin(999)), stays(1, 1000, 1000), false}, {example(begin(999)), stays(1, 999, 999), false}, {example(), stays(0, 10, 998, 1, 999, 999), true}, {example(), stays(0, 10, 999, 1, 1000, 1000), false}, {example(begin(0)), stays(0, 0, 0), true},
	} {
		if is, e := tour.IsTour(x.b, x.tour); is != x.want || e != api.OK {
			t.Errorf("IsTour %d: %v, %d", i, is, e)
		}
	}
	for name, l := range notTours() {
		if is, e := tour.IsTour(example(), l); is || e != api.OK {
			t.Errorf("IsTour of stays %s: %v, %d", name, is, e)
		}
	}
}

// P7.2: between what lies what a tour is worth.
func TestWorth(t *testing.T) {
	for i, x := range []struct {
		b    api.TourBook
		tour []api.TourStay
		want api.Span
	}{
		// the examples
		{example(), stays(0, 10, 12, 1, 13, 15), span(136, 236)}, {example(), stays(2, 20, 21), span(-38, -38)},
		{example(), nil, span(0, 0)}, {example(), stays(0, 11, 11), span(26, 46)}, {example(all), stays(0, 10, 12, 1, 13, 15, 2, 20, 21), span(148, 388)}, {example(all), stays(2, 20, 21), span(2, 142)},
		// days beside the fair, or without a licence, cost as much, and bring nothing
		{example(), stays(0, 9, 9), span(-4, -4)}, {example(), stays(0, 9, 13), span(70, 130)}, {example(), stays(1, 10, 15), span(46, 86)}, {example(), stays(1, 14, 14), span(-14, -14)}, {example(), stays(1, 13, 13), span(26, 46)}, {example(), stays(1, 14, 15), span(22, 42)}, {example(fair(0, 10, 11)), stays(0, 10, 12), span(48, 88)}, {example(fair(0, 10, 17)), stays(0, 10, 17), span(58, 118)},
		// roads cost, each by its days; to wait costs nothing
		{example(), stays(0, 10, 12, 2, 15, 15), span(44, 104)}, {example(from(1)), stays(0, 10, 12), span(68, 128)}, {example(from(1)), stays(1, 13, 15), span(68, 108)}, {example(from(2)), stays(1, 13, 15), span(48, 88)}, {example(), stays(0, 10, 10, 1, 13, 13), span(52, 92)}, {example(), stays(0, 10, 10, 1, 15, 15), span(52, 92)}, {example(), stays(2, 12, 12, 1, 14, 14, 0, 15, 15), span(-72, -72)}, {example(road(0, 1, 5)), stays(1, 14, 15), span(-18, 2)}, {example(road(1, 0, 5)), stays(1, 14, 15), span(22, 42)}, {example(begin(0)), stays(0, 10, 12), span(78, 138)},
		// nothing costs anything, or as much as can be
		{example(cost(0), keep(0)), stays(0, 10, 12, 1, 13, 15), span(170, 270)}, {example(cost(500), keep(500)), stays(2, 20, 21), span(-2500, -2500)}, {example(cost(0)), stays(0, 10, 12, 1, 13, 15), span(146, 246)}, {example(keep(0)), stays(0, 10, 12, 1, 13, 15), span(160, 260)}, {example(begin(0), keep(500)), stays(0, 0, 999), span(-499910, -499850)},
		// between what the days bring
		{example(take(0, 0, 10000)), stays(0, 10, 12), span(-12, 29988)}, {example(take(0, 0, 0)), stays(0, 10, 12), span(-12, -12)}, {example(take(0, 40, 40)), stays(0, 10, 12), span(108, 108)},
	} {
		if s, e := tour.Worth(x.b, x.tour); s != x.want || e != api.OK {
			t.Errorf("Worth %d: %v, %d", i, s, e)
		}
	}
}

// P7.3: the tour that surely brings the most.
func TestBest(t *testing.T) {
	both, one := stays(0, 10, 12, 1, 13, 15), stays(0, 10, 12)
	last := []change{fair(0, 999, 999), papers(0, open(990))}
	for i, x := range []struct {
		b    api.TourBook
		gain int
		want []api.TourStay
	}{
		// the examples
		{example(), 136, both}, {example(from(1)), 126, both},
		{example(all), 148, stays(0, 10, 12, 1, 13, 15, 2, 20, 21)}, {example(row), 282, stays(0, 10, 12, 1, 13, 15, 2, 16, 18, 3, 19, 21)}, {example(towns(1)), 78, one}, {example(towns(4)), 78, one},
		// what can be reached still
		{example(begin(0)), 136, both}, {example(begin(11)), 110, stays(0, 11, 12, 1, 13, 15)}, {example(begin(13)), 26, stays(1, 15, 15)}, {example(begin(15)), 0, nil}, {example(begin(30), all), 0, nil}, {example(from(2)), 54, stays(0, 12, 12, 1, 13, 15)}, {example(from(2), road(2, 0, 4)), 48, stays(1, 13, 15)}, {example(road(0, 1, 2)), 100, stays(0, 10, 11, 1, 13, 15)},
		// some days of the one fair for some of the other one, or the later town first
		{example(fair(1, 11, 13), barred(1)), 124, stays(0, 10, 10, 1, 11, 13)}, {example(fair(1, 11, 13), barred(1), take(1, 20, 20)), 84, stays(0, 10, 12, 1, 13, 13)}, {example(fair(0, 16, 17), papers(0, open(10))), 100, stays(1, 13, 15, 0, 16, 17)},
		// a day without a licence among others, and at the ends
		{example(keep(19)), 46, both}, {example(fair(1, 12, 14)), 114, stays(0, 10, 11, 1, 12, 13)}, {example(fair(1, 14, 16), cost(0)), 114, stays(0, 10, 12, 1, 15, 15)}, {example(barred(1, span(13, 15))), 78, one},
		// only if it surely brings more than it costs
		{example(cost(67)), 79, both}, {example(cost(68)), 78, one}, {example(cost(69)), 78, one}, {example(keep(30)), 0, nil}, {example(keep(31)), 0, nil}, {example(take(1, 11, 90)), 78, one}, {example(take(1, 12, 12)), 80, both}, {example(take(1, 0, 10000)), 78, one}, {example(take(1, 10, 90), cost(5)), 81, both}, {example(take(0, 0, 9), take(1, 0, 9), cost(0), keep(0)), 0, nil}, {example(take(0, 30, 10000), take(1, 0, 10000)), 78, one},
		// as much by fewer stays
		{example(all, road(0, 2, 1), keep(0), cost(0), fair(0, 10, 10), take(0, 5, 5), fair(1, 11, 11), take(1, 5, 5), fair(2, 10, 11), take(2, 5, 5), papers(2, open(5))), 10, stays(2, 10, 11)},
		// the last day of all
		{example(append(last, begin(998))...), 26, stays(0, 999, 999)}, {example(append(last, begin(999))...), 26, stays(0, 999, 999)}, {example(append(last, begin(998), from(1))...), 16, stays(0, 999, 999)}, {example(append(last, begin(999), from(1))...), 0, nil},
	} {
		n, e := tour.Gain(x.b)
		if n != x.gain || e != api.OK {
			t.Errorf("Gain %d: %d, %d", i, n, e)
		}
		l, e := tour.Best(x.b)
		if !slices.Equal(l, x.want) || e != api.OK {
			t.Errorf("Best %d: %v, %d", i, l, e)
		}
	}
}

// P7.3: several tours that surely bring the most, with as few stays.
func TestBestOfSeveral(t *testing.T) {
	for i, x := range []struct {
		b          api.TourBook
		gain, many int
	}{
		{example(keep(20)), 40, 2}, {example(keep(21)), 36, 2}, {example(keep(29)), 4, 2}, {example(far), 158, 2}, {example(towns(4), cost(0)), 78, 1}, {example(take(0, 4, 4), towns(4), cost(0)), 0, 0}, {example(take(0, 4, 50)), 58, 1}, {example(take(0, 4, 50), road(2, 1, 1), from(2)), 58, 1},
	} {
		n, e := tour.Gain(x.b)
		l, f := tour.Best(x.b)
		if n != x.gain || len(l) != x.many || e != api.OK || f != api.OK {
			t.Errorf("Gain and Best %d: %d, %d, %v, %d", i, n, e, l, f)
		}
		if s, e := tour.Worth(x.b, l); s.Low != x.gain || e != api.OK {
			t.Errorf("Worth of the best tour %d, %v: %v, %d", i, l, s, e)
		}
	}
	if l, e := tour.Best(example(far)); len(l) != 2 || l[0].Town != 2 || l[1] != stay(1, 13, 15) || e != api.OK {
		t.Errorf("Best by way of another town: %v, %d", l, e)
	}
}

// P7.4: the least money in the beginning.
func TestPurse(t *testing.T) {
	for i, x := range []struct {
		b    api.TourBook
		tour []api.TourStay
		want int
	}{
		// the examples
		{example(), stays(0, 10, 12, 1, 13, 15), 4}, {example(), stays(2, 20, 21), 38},
		{example(), nil, 0}, {example(), stays(0, 9, 9), 4}, {example(), stays(0, 9, 12), 8}, {example(), stays(1, 10, 15), 26}, {example(), stays(1, 14, 14), 14}, {example(from(1)), stays(0, 10, 12), 14}, {example(cost(0), keep(0)), stays(0, 10, 12, 1, 13, 15, 2, 20, 21), 0},
		// Keep is paid before the day brings anything, and the road before both
		{example(keep(30)), stays(0, 10, 12), 30}, {example(keep(31)), stays(0, 10, 12), 33}, {example(keep(50), take(0, 20, 60)), stays(0, 10, 12), 110}, {example(keep(45), cost(0)), stays(1, 13, 15), 95}, {example(keep(40)), stays(1, 13, 13), 50}, {example(keep(0), cost(90)), stays(0, 10, 12, 1, 13, 15), 0}, {example(keep(0), cost(91)), stays(0, 10, 12, 1, 13, 15), 1}, {example(keep(0), cost(500)), stays(0, 10, 12, 1, 13, 15), 410}, {example(keep(0), cost(500)), stays(1, 13, 15), 500},
		// the worst time may be first, among others, or last
		{example(), stays(0, 10, 10, 2, 13, 13), 8}, {example(keep(5), cost(20)), stays(0, 10, 10, 1, 13, 13, 2, 20, 20), 5}, {example(keep(5), cost(45)), stays(0, 10, 10, 1, 13, 13), 25}, {example(keep(5), cost(60)), stays(0, 10, 10, 1, 13, 13, 2, 20, 20), 125}, {example(keep(10)), stays(0, 10, 30), 120}, {example(keep(10)), stays(0, 10, 10, 1, 11, 13), 20},
		// by the least that the days bring
		{example(take(0, 0, 10000)), stays(0, 10, 12), 12}, {example(take(0, 3, 10000)), stays(0, 10, 12), 6}, {example(begin(0), keep(500)), stays(0, 0, 999), 499910},
	} {
		if n, e := tour.Purse(x.b, x.tour); n != x.want || e != api.OK {
			t.Errorf("Purse %d: %d, %d", i, n, e)
		}
	}
}

// P7.5: in which town there is a stay on a day.
func TestWhere(t *testing.T) {
	both := stays(0, 10, 12, 1, 13, 15)
	for i, x := range []struct {
		tour      []api.TourStay
		day, want int
	}{
		// the examples
		{both, 14, 1}, {both, 16, -1},
		{both, 10, 0}, {both, 12, 0}, {both, 13, 1}, {both, 15, 1}, {both, 9, -1}, {both, 0, -1}, {both, 999, -1},
		// between two stays
		{stays(0, 10, 11, 1, 15, 16), 12, -1}, {stays(0, 10, 11, 1, 15, 16), 14, -1}, {stays(0, 10, 11, 1, 15, 16), 11, 0}, {stays(0, 10, 11, 1, 15, 16), 15, 1},
		// the town, not the place in the tour
		{stays(2, 12, 12, 1, 14, 14, 0, 15, 17), 12, 2}, {stays(2, 12, 12, 1, 14, 14, 0, 15, 17), 13, -1}, {stays(2, 12, 12, 1, 14, 14, 0, 15, 17), 14, 1}, {stays(2, 12, 12, 1, 14, 14, 0, 15, 17), 16, 0},
		// nowhere, and the last days
		{nil, 9, -1}, {nil, 0, -1}, {nil, 999, -1}, {stays(0, 9, 999), 999, 0}, {stays(0, 9, 999), 8, -1}, {stays(1, 999, 999), 999, 1}, {stays(1, 999, 999), 998, -1},
	} {
		if n, e := tour.Where(example(), x.tour, x.day); n != x.want || e != api.OK {
			t.Errorf("Where %d: %d, %d", i, n, e)
		}
	}
	if n, e := tour.Where(example(begin(0)), stays(0, 0, 0), 0); n != 0 || e != api.OK {
		t.Errorf("Where on the first day of all: %d, %d", n, e)
	}
}

// P7.5: when a next stay could begin.
func TestNext(t *testing.T) {
	for i, x := range []struct {
		b    api.TourBook
		tour []api.TourStay
		want []int
	}{
		// the examples
		{example(), stays(0, 10, 12), []int{-1, 13, 15}}, {example(), nil, []int{9, 10, 12}},
		{example(), stays(1, 10, 15), []int{16, -1, 17}}, {example(), stays(0, 10, 12, 1, 13, 15), []int{-1, -1, 17}}, {example(), stays(1, 13, 15, 0, 16, 20), []int{-1, -1, 23}}, {example(), stays(0, 10, 12, 1, 13, 15, 2, 20, 21), []int{-1, -1, -1}}, {example(row), stays(3, 10, 10), []int{11, 11, 11, -1}}, {example(towns(1)), nil, []int{9}}, {example(towns(1)), stays(0, 10, 12), []int{-1}},
		// from where the cinema is
		{example(from(1)), nil, []int{10, 9, 11}}, {example(from(2), begin(100)), nil, []int{103, 102, 100}}, {example(from(1)), stays(0, 10, 12), []int{-1, 13, 15}},
		// by the road there, not the one back
		{example(road(0, 1, 5)), nil, []int{9, 14, 12}}, {example(road(1, 0, 5)), nil, []int{9, 10, 12}}, {example(road(1, 0, 5)), stays(1, 10, 10), []int{15, -1, 12}},
		// beyond 999
		{example(), stays(0, 10, 999), []int{-1, 1000, 1002}}, {example(begin(999)), nil, []int{999, 1000, 1002}}, {example(begin(999), road(0, 2, 30)), nil, []int{999, 1000, 1029}}, {example(begin(0)), nil, []int{0, 1, 3}},
	} {
		if l, e := tour.Next(x.b, x.tour); !slices.Equal(l, x.want) || e != api.OK {
			t.Errorf("Next %d: %v, %d", i, l, e)
		}
	}
}

// P7.6: what the licences cost that a tour needs.
func TestPapers(t *testing.T) {
	late, both := stays(0, 10, 12, 2, 20, 21), stays(0, 10, 12, 1, 13, 15)
	days, two := papers(0, licences(1, 5, 1)), papers(0, api.LicenceTown{Kinds: []api.LicenceKind{{Days: 1, Fee: 5, Notice: 1}, {Days: 3, Fee: 14, Notice: 2}}})
	for i, x := range []struct {
		b     api.TourBook
		tour  []api.TourStay
		today int
		want  int
		e     api.Errno
	}{
		// the examples
		{example(), late, 17, 6, api.OK}, {example(), late, 18, 0, api.ErrNone}, {example(), stays(1, 13, 15), 9, 0, api.ErrNone},
		// nothing is needed
		{example(), nil, 0, 0, api.OK}, {example(), nil, 999, 0, api.OK}, {example(), stays(0, 10, 12), 0, 0, api.OK}, {example(), stays(0, 10, 12), 999, 0, api.OK}, {example(), stays(1, 15, 15), 15, 0, api.OK}, {example(), stays(1, 13, 13), 999, 0, api.OK},
		// only days of the fair, and of the stay
		{example(), stays(2, 12, 19), 999, 0, api.OK}, {example(), stays(2, 22, 30), 999, 0, api.OK}, {example(), stays(2, 12, 30), 17, 6, api.OK}, {example(), stays(2, 20, 20), 17, 6, api.OK}, {example(), stays(2, 20, 20), 18, 0, api.ErrNone}, {example(), stays(2, 21, 21), 18, 6, api.OK}, {example(), stays(2, 21, 21), 19, 0, api.ErrNone}, {example(), stays(2, 21, 50), 18, 6, api.OK}, {example(days), stays(0, 11, 11), 10, 5, api.OK}, {example(days), stays(0, 11, 11), 11, 0, api.ErrNone}, {example(days), stays(0, 12, 20), 9, 5, api.OK}, {example(days, fair(0, 10, 17)), stays(0, 9, 30), 9, 40, api.OK},
		// a barred day is not covered
		{example(), stays(1, 14, 14), 0, 0, api.ErrNone}, {example(), stays(1, 13, 14), 0, 0, api.ErrNone}, {example(), stays(1, 16, 20), 0, 0, api.OK}, {example(barred(1)), stays(1, 13, 15), 999, 0, api.OK}, {example(barred(0, span(9, 9), span(13, 99))), stays(0, 10, 12), 999, 0, api.OK},
		// together, the cheapest ones
		{example(days), late, 9, 21, api.OK}, {example(days), late, 10, 0, api.ErrNone}, {example(two), late, 8, 20, api.OK}, {example(two), late, 9, 21, api.OK}, {example(two), stays(0, 11, 12), 9, 10, api.OK}, {example(papers(0, licences(1, 5, 1, 11))), late, 9, 16, api.OK}, {example(all), late, 999, 0, api.OK},
		// in any one of the towns there can be no plan; what is asked for one is nothing to the others
		{example(days), both, 9, 0, api.ErrNone}, {example(days, barred(1)), both, 9, 15, api.OK}, {example(days, barred(1)), both, 10, 0, api.ErrNone}, {example(days), stays(2, 20, 21), 17, 6, api.OK}, {example(), stays(0, 10, 12), 500, 0, api.OK},
	} {
		if n, e := tour.Papers(x.b, x.tour, x.today); n != x.want || e != x.e {
			t.Errorf("Papers %d: %d, %d", i, n, e)
		}
	}
}

// isSame tells if all lists of two books have the same elements.
func isSame(one, other api.TourBook) bool {
	areSame := func(one, other api.TourTown) bool {
		x, y := one.Licence, other.Licence
		return one.Fair == other.Fair && one.Take == other.Take && slices.Equal(x.Kinds, y.Kinds) && slices.Equal(x.Barred, y.Barred) && slices.Equal(x.Held, y.Held)
	}
	return slices.EqualFunc(one.Towns, other.Towns, areSame) && slices.EqualFunc(one.Roads, other.Roads, slices.Equal[[]int])
}

// P7.7: arguments are only read, what lies behind a list among them.
func TestArgumentsAreRead(t *testing.T) {
	for _, x := range []api.TourBook{example(), example(far), example(row)} {
		many := len(x.Towns)
		x.Towns = append(x.Towns, api.TourTown{Fair: span(77, 78)})[:many]
		x.Roads = append(x.Roads, []int{77, 78})[:many]
		for i := range x.Towns {
			l := &x.Towns[i].Licence
			l.Kinds = append(l.Kinds, api.LicenceKind{Days: 77})[:len(l.Kinds)]
			l.Barred = append(l.Barred, span(77, 78))[:len(l.Barred)]
			l.Held = append(l.Held, api.LicencePaper{Kind: 77, First: 78})[:len(l.Held)]
			x.Roads[i] = append(x.Roads[i], 77)[:many]
		}
		a := asked{1, 10, append(stays(1, 18, 19), stay(77, 78, 79))[:1]}
		all := func() api.TourBook {
			b := x
			b.Towns, b.Roads = slices.Clone(b.Towns[:many+1]), slices.Clone(b.Roads[:many+1])
			for i := range x.Towns {
				l := &b.Towns[i].Licence
				l.Kinds, l.Barred, l.Held = l.Kinds[:len(l.Kinds)+1], l.Barred[:len(l.Barred)+1], l.Held[:len(l.Held)+1]
				b.Roads[i] = b.Roads[i][:many+1]
			}
			return b
		}
		old, oldTour := with(all()), slices.Clone(a.tour[:2])
		for _, c := range append(calls(), call{"Check", "", func(b api.TourBook, a asked) (string, api.Errno) { return "", tour.Check(b) }}) {
			_, e := c.ask(x, a)
			right(t, c.name, e)
			if now := all(); !isSame(now, old) || !slices.Equal(a.tour[:2], oldTour) {
				t.Errorf("%s changes its arguments: %v, %v", c.name, now, a.tour[:2])
			}
		}
	}
}

// P7.7: a result keeps what it is if an argument or another result is changed.
func TestResultsAreNew(t *testing.T) {
	type answers struct {
		shown, next []int
		best        []api.TourStay
	}
	ask := func(x api.TourBook, l []api.TourStay) (a answers) {
		var e api.Errno
		a.shown, e = tour.Shown(x, 0)
		right(t, "Shown", e)
		a.next, e = tour.Next(x, l)
		right(t, "Next", e)
		a.best, e = tour.Best(x)
		right(t, "Best", e)
		return a
	}
	isRight := func(a answers) bool {
		return slices.Equal(a.shown, []int{10, 11, 12}) && slices.Equal(a.next, []int{-1, 13, 15}) && slices.Equal(a.best, stays(0, 10, 12, 1, 13, 15))
	}
	x, l := example(), stays(0, 10, 12)
	first := ask(x, l)
	for i := range x.Towns {
		y := x.Towns[i].Licence
		clear(y.Kinds)
		clear(y.Barred)
		clear(y.Held)
		clear(x.Roads[i])
	}
	clear(x.Towns)
	clear(x.Roads)
	clear(l)
	if !isRight(first) {
		t.Errorf("a result shares memory with an argument: %v", first)
	}
	x, l = example(), stays(0, 10, 12)
	second := ask(x, l)
	clear(first.shown[:cap(first.shown)])
	clear(first.next[:cap(first.next)])
	clear(first.best[:cap(first.best)])
	if !isRight(second) || !isSame(x, example()) || !slices.Equal(l, stays(0, 10, 12)) {
		t.Errorf("after a change of earlier results: %v", second)
	}
	if again := ask(example(), stays(0, 10, 12)); !isRight(again) {
		t.Errorf("asked again after a change of results: %v", again)
	}
}

// right ends the test if there is an error.
func right(t *testing.T, name string, e api.Errno) {
	t.Helper()
	if e != api.OK {
		t.Fatalf("%s: %d", name, e)
	}
}

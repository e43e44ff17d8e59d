package relay_test

import (
	"slices"
	"testing"

	"bioscope/api"
	"bioscope/relay"
)

// plain is a book in which reels of 100, 50 and 20 feet last as many seconds in both tents.
func plain(changes ...change) api.RelayBook {
	return example(append([]change{exact, feet(100, 50, 20), there(30, 30), back(20, 20), carry(3)}, changes...)...)
}

// short lets each foot last a tenth of a second.
func short(b *api.RelayBook) { b.Film.Turn = span(1, 1) }

// far2 is a long way, on which it takes more time to ride than to show a reel.
func far2(b *api.RelayBook) { b.Go, b.Back = span(200, 200), span(100, 100) }

// heavy is the greatest book.
func heavy(b *api.RelayBook) {
	feet(1200, 1200, 1200, 1200, 1200, 1200)(b)
	b.Film.Turn, b.Film.Tear, b.Go, b.Back, b.Carry = span(1, 20), span(0, 0), span(3600, 3600), span(3600, 3600), 6
}

// P8.1: what is a plan.
func TestIsPlan(t *testing.T) {
	for i, x := range []struct {
		b    api.RelayBook
		plan []int
		want bool
	}{
		// the examples
		{example(), []int{1, 1, 1}, true}, {example(), []int{1, 2}, true}, {example(), []int{3}, false}, {example(), []int{2}, false}, {example(), []int{0, 1, 2}, false},
		{example(), []int{2, 1}, true},
		// as much as the boy carries, and one more
		{example(carry(3)), []int{3}, true}, {example(carry(6)), []int{3}, true}, {example(carry(1)), []int{1, 1, 1}, true}, {example(carry(1)), []int{1, 2}, false}, {example(carry(1)), []int{2, 1}, false}, {example(heavy), []int{6}, true}, {example(heavy, carry(5)), []int{6}, false}, {example(heavy, carry(5)), []int{1, 5}, true}, {example(heavy, carry(5)), []int{5, 1}, true}, {example(heavy), []int{1, 1, 1, 1, 1, 1}, true}, {example(heavy), []int{2, 1, 3}, true}, {example(heavy), []int{7}, false},
		// all reels, and no more
		{example(feet(5)), []int{1}, true}, {example(feet(5)), []int{2}, false}, {example(feet(5)), nil, false}, {example(carry(6)), []int{4}, false}, {example(carry(6)), []int{1, 3}, false}, {example(carry(6)), []int{3, 1}, false}, {example(carry(6)), []int{1, 1}, false},
	} {
		if is, e := relay.IsPlan(x.b, x.plan); is != x.want || e != api.OK {
			t.Errorf("IsPlan %d: %v, %d", i, is, e)
		}
	}
	for name, l := range notPlans() {
		if is, e := relay.IsPlan(example(), l); is || e != api.OK {
			t.Errorf("IsPlan of trips, %s: %v, %d", name, is, e)
		}
	}
}

// P8.2: between what lies when each reel is there; P8.3: with which beginning surely, and perhaps, nobody waits.
func TestThereAndStarts(t *testing.T) {
	one := func(n ...int) (l []api.Span) {
		for _, x := range n {
			l = append(l, span(x, x))
		}
		return l
	}
	for i, x := range []struct {
		b               api.RelayBook
		plan            []int
		want            []api.Span
		surely, perhaps int
	}{
		// the examples
		{example(), []int{1, 1, 1}, []api.Span{span(9000, 12000), span(15000, 19000), span(21000, 26000)}, 1524, 900}, {example(), []int{1, 2}, []api.Span{span(9000, 12000), span(17400, 23200), span(17400, 23200)}, 1722, 941}, {example(), []int{2, 1}, []api.Span{span(13800, 18400), span(13800, 18400), span(19800, 25400)}, 1840, 1380},
		// the boy is just back when the reel is over, or waits for it, or it for him
		{plain(), []int{1, 1, 1}, one(1300, 1800, 2300), 130, 130}, {plain(back(21, 21)), []int{1, 1, 1}, one(1300, 1810, 2320), 130, 130}, {plain(back(19, 19)), []int{1, 1, 1}, one(1300, 1800, 2290), 130, 130}, {plain(near), []int{1, 1, 1}, one(1000, 1500, 1700), 100, 100}, {plain(far2), []int{1, 1, 1}, one(3000, 6000, 9000), 750, 750},
		// the last one of the reels of a trip
		{plain(), []int{1, 2}, one(1300, 2000, 2000), 130, 130}, {plain(), []int{2, 1}, one(1800, 1800, 2300), 180, 180}, {plain(), []int{3}, one(2000, 2000, 2000), 200, 200}, {plain(far2), []int{1, 2}, one(3000, 6000, 6000), 500, 500}, {plain(far2), []int{2, 1}, one(3500, 3500, 6500), 500, 500}, {plain(far2), []int{3}, one(3700, 3700, 3700), 370, 370},
		// a single reel, and many
		{plain(feet(100)), []int{1}, one(1300), 130, 130}, {plain(feet(100), near), []int{1}, one(1000), 100, 100}, {plain(feet(10, 10, 10, 10, 10, 10), there(5, 5), back(5, 5)), []int{1, 1, 1, 1, 1, 1}, one(150, 250, 350, 450, 550, 650), 15, 15}, {plain(feet(10, 10, 10, 10, 10, 10), there(5, 5), back(6, 6)), []int{2, 3, 1}, one(250, 250, 550, 550, 550, 660), 35, 35},
		// each ride takes its own time
		{plain(there(30, 40)), []int{1, 1, 1}, []api.Span{span(1300, 1400), span(1800, 2000), span(2300, 2600)}, 140, 130}, {plain(back(20, 50)), []int{1, 1, 1}, []api.Span{span(1300, 1300), span(1800, 2100), span(2300, 2900)}, 140, 130}, {plain(back(0, 20)), []int{1, 1, 1}, []api.Span{span(1300, 1300), span(1800, 1800), span(2100, 2300)}, 130, 130}, {plain(back(0, 900)), []int{3}, one(2000, 2000, 2000), 200, 200},
		// the second is rounded up: just one, a tenth more, nine tenths more
		{plain(short, near, feet(100)), []int{1}, one(100), 10, 10}, {plain(short, near, feet(101)), []int{1}, one(101), 11, 11}, {plain(short, near, feet(109)), []int{1}, one(109), 11, 11}, {plain(short, near, feet(110)), []int{1}, one(110), 11, 11}, {plain(short, near, feet(1)), []int{1}, one(1), 1, 1}, {plain(turn(1, 2), near, feet(55)), []int{1}, []api.Span{span(55, 110)}, 11, 6},
		// the second tent's reels are a showing older, and shorter
		{plain(tear(10, 10), near, feet(100, 50)), []int{2}, one(1500, 1500), 150, 150}, {plain(tear(10, 10), near, feet(50, 100)), []int{1, 1}, one(500, 1500), 110, 110}, {plain(tear(10, 10), near, feet(50, 100), shows(2)), []int{1, 1}, one(300, 1100), 90, 90}, {plain(tear(0, 10), near, feet(50, 100), shows(2)), []int{1, 1}, []api.Span{span(300, 500), span(1100, 1500)}, 130, 60}, {plain(tear(10, 10), near, feet(10, 100)), []int{1, 1}, one(100, 1100), 110, 110},
		// nothing is left of some reels, or of all, in one tent or in both
		{plain(tear(10, 10), shows(5)), []int{1, 1, 1}, one(800, 1300, 1800), 140, 140}, {plain(tear(10, 10), shows(2)), []int{1, 1, 1}, one(1100, 1600, 2100), 120, 120}, {plain(tear(50, 50), shows(998)), []int{1, 1, 1}, one(300, 800, 1300), 130, 130}, {plain(tear(50, 50), shows(998), near), []int{1, 2}, one(0, 0, 0), 0, 0}, {plain(tear(0, 50), shows(998), near), []int{3}, []api.Span{span(0, 1700), span(0, 1700), span(0, 1700)}, 170, 0}, {plain(tear(0, 50), shows(1), feet(50, 50), near), []int{1, 1}, []api.Span{span(0, 500), span(0, 1000)}, 100, 0},
		// the reels are told by their places in the order
		{plain(mixed), []int{1, 2}, one(1300, 2000, 2000), 130, 130}, {example(mixed), []int{1, 1, 1}, []api.Span{span(9000, 12000), span(15000, 19000), span(21000, 26000)}, 1524, 900}, {plain(feet(100, 50), scenes(0, 1, 1), scenes(1, 1, 1)), []int{1, 1}, one(1300, 1800), 130, 130}, {plain(feet(50, 100), scenes(0, 1, 1), scenes(1, 1, 1)), []int{1, 1}, one(800, 1800), 130, 130},
		// the greatest numbers
		{example(heavy), []int{1, 1, 1, 1, 1, 1}, []api.Span{span(37200, 60000), span(109200, 132000), span(181200, 204000), span(253200, 276000), span(325200, 348000), span(397200, 420000)}, 41400, 27720},
	} {
		l, e := relay.There(x.b, x.plan)
		if !slices.Equal(l, x.want) || e != api.OK {
			t.Errorf("There %d: %v, %d", i, l, e)
		}
		surely, perhaps, e := relay.Starts(x.b, x.plan)
		if surely != x.surely || perhaps != x.perhaps || e != api.OK {
			t.Errorf("Starts %d: %d, %d, %d", i, surely, perhaps, e)
		}
	}
}

// P8.4: between what lies when all is over.
func TestOver(t *testing.T) {
	for i, x := range []struct {
		b     api.RelayBook
		plan  []int
		start int
		want  api.Span
	}{
		// the examples
		{example(), []int{1, 1, 1}, 1524, span(29586, 34416)}, {example(), []int{1, 1, 1}, 0, span(24582, 31176)},
		// nobody waits
		{plain(), []int{1, 1, 1}, 130, span(3000, 3000)}, {plain(), []int{1, 1, 1}, 131, span(3010, 3010)}, {plain(), []int{1, 1, 1}, 99999, span(1001690, 1001690)}, {plain(), []int{3}, 200, span(3700, 3700)}, {plain(near), []int{1, 1, 1}, 100, span(2700, 2700)},
		// somebody waits for the first reel, a later one, the last one, several
		{plain(), []int{1, 1, 1}, 129, span(3000, 3000)}, {plain(), []int{1, 1, 1}, 0, span(3000, 3000)}, {plain(far2), []int{1, 1, 1}, 0, span(9200, 9200)}, {plain(far2), []int{1, 1, 1}, 749, span(9200, 9200)}, {plain(far2), []int{1, 1, 1}, 751, span(9210, 9210)}, {plain(far2), []int{1, 2}, 0, span(6700, 6700)}, {plain(far2), []int{1, 2}, 499, span(6700, 6700)}, {plain(far2), []int{1, 2}, 501, span(6710, 6710)}, {plain(far2), []int{2, 1}, 0, span(6700, 6700)}, {plain(far2), []int{2, 1}, 501, span(6710, 6710)}, {plain(feet(10, 100, 10), there(50, 50), back(0, 0)), []int{1, 1, 1}, 0, span(2700, 2700)}, {plain(feet(10, 100, 10), there(50, 50), back(0, 0)), []int{1, 1, 1}, 150, span(2700, 2700)}, {plain(feet(10, 100, 10), there(50, 50), back(0, 0)), []int{1, 1, 1}, 151, span(2710, 2710)},
		// what is waited for at one end alone
		{plain(there(30, 40)), []int{1, 1, 1}, 135, span(3050, 3100)}, {plain(turn(1, 10), near), []int{1, 1, 1}, 5, span(270, 2700)}, {plain(turn(1, 10), near), []int{1, 1, 1}, 50, span(670, 2700)}, {plain(turn(1, 10), near), []int{1, 1, 1}, 120, span(1370, 2900)},
		// shorter by what is torn off, until there is nothing
		{plain(tear(10, 10)), []int{1, 1, 1}, 200, span(3400, 3400)}, {plain(tear(10, 10), shows(1)), []int{1, 1, 1}, 200, span(3100, 3100)}, {plain(tear(10, 10), shows(5)), []int{1, 1, 1}, 200, span(2400, 2400)}, {plain(tear(50, 50), shows(998)), []int{1, 1, 1}, 0, span(1300, 1300)}, {plain(tear(50, 50), shows(998), near), []int{3}, 0, span(0, 0)}, {plain(tear(50, 50), shows(998), near), []int{3}, 7, span(70, 70)}, {plain(tear(0, 10), near), []int{3}, 200, span(3400, 3700)},
		// the greatest numbers
		{example(heavy), []int{1, 1, 1, 1, 1, 1}, 0, span(398400, 444000)}, {example(heavy), []int{6}, 99999, span(1007190, 1143990)},
	} {
		if s, e := relay.Over(x.b, x.plan, x.start); s != x.want || e != api.OK {
			t.Errorf("Over %d: %v, %d", i, s, e)
		}
	}
}

// turned are reels of which the last one is long.
func turned(b *api.RelayBook) { feet(10, 10, 100)(b) }

// P8.5: the plan with which the second tent can begin soonest.
func TestBest(t *testing.T) {
	for i, x := range []struct {
		b     api.RelayBook
		want  []int
		start int
	}{
		// the examples
		{example(), []int{1, 1, 1}, 1524}, {example(mixed), []int{1, 1, 1}, 1524},
		{example(far), []int{1, 2}, 3102}, {example(far, carry(1)), []int{1, 1, 1}, 4524}, {example(far, carry(3)), []int{3}, 2920}, {example(far, carry(6)), []int{3}, 2920},
		// a single reel, many reels
		{plain(feet(7)), []int{1}, 37}, {plain(feet(7), carry(1)), []int{1}, 37}, {example(heavy), []int{3, 3}, 17640}, {example(heavy, carry(2)), []int{2, 2, 2}, 22320},
		// as soon with fewer trips, if the boy can carry so much
		{plain(), []int{1, 2}, 130}, {plain(carry(1)), []int{1, 1, 1}, 130}, {plain(near, feet(100, 1, 1)), []int{1, 2}, 100}, {plain(far2), []int{3}, 370}, {plain(far2, carry(1)), []int{1, 1, 1}, 750},
		// as soon with as many trips: the first one
		{plain(far2, carry(2)), []int{1, 2}, 500}, {plain(short, near, feet(95, 1, 1), carry(2)), []int{1, 2}, 10}, {plain(short, near, feet(95, 1, 1, 1)), []int{1, 3}, 10}, {plain(short, near, feet(95, 1, 1, 1), carry(2)), []int{2, 2}, 10}, {plain(short, near, feet(95, 1, 1, 1), carry(4)), []int{4}, 10}, {plain(short, near, feet(98, 1, 1, 1), carry(4)), []int{1, 3}, 10}, {plain(tear(50, 50), shows(998), near), []int{3}, 0}, {plain(tear(50, 50), shows(998), near, carry(2)), []int{1, 2}, 0},
		// it need not be the first one
		{plain(turned, carry(2)), []int{2, 1}, 130}, {plain(turned, near, carry(2)), []int{2, 1}, 100}, {plain(feet(10, 10, 10, 100, 10), there(10, 10), back(0, 0), carry(3)), []int{3, 1, 1}, 110}, {plain(feet(10, 10, 10, 100, 10), there(10, 10), back(30, 30), carry(2)), []int{1, 2, 1, 1}, 110},
		// by what is sure, not by what perhaps is so
		{plain(feet(50, 50), there(10, 200), back(0, 0)), []int{2}, 300}, {plain(feet(50, 50), there(10, 100), back(0, 100)), []int{2}, 200}, {plain(feet(50, 50), there(10, 10), back(0, 100)), []int{2}, 110},
	} {
		l, e := relay.Best(x.b)
		if !slices.Equal(l, x.want) || e != api.OK {
			t.Errorf("Best %d: %v, %d", i, l, e)
		}
		if surely, _, e := relay.Starts(x.b, x.want); surely != x.start || e != api.OK {
			t.Errorf("Starts of the best plan %d: %d, %d", i, surely, e)
		}
	}
}

// P8.6: the plan with the fewest trips.
func TestFew(t *testing.T) {
	for i, x := range []struct {
		b     api.RelayBook
		start int
		want  []int
		e     api.Errno
	}{
		// the examples
		{example(), 1524, []int{1, 1, 1}, api.OK}, {example(), 1722, []int{1, 2}, api.OK}, {example(), 1523, nil, api.ErrNone},
		{example(), 1721, []int{1, 1, 1}, api.OK}, {example(), 99999, []int{1, 2}, api.OK}, {example(), 0, nil, api.ErrNone}, {example(carry(3)), 2320, []int{3}, api.OK}, {example(carry(3)), 2319, []int{1, 2}, api.OK}, {example(carry(1)), 99999, []int{1, 1, 1}, api.OK},
		// just in time, and a second sooner
		{plain(), 130, []int{1, 2}, api.OK}, {plain(), 129, nil, api.ErrNone}, {plain(), 199, []int{1, 2}, api.OK}, {plain(), 200, []int{3}, api.OK}, {plain(carry(1)), 130, []int{1, 1, 1}, api.OK}, {plain(carry(1)), 129, nil, api.ErrNone}, {plain(short, near, feet(101)), 10, nil, api.ErrNone}, {plain(short, near, feet(101)), 11, []int{1}, api.OK}, {plain(short, near, feet(100)), 10, []int{1}, api.OK},
		// of several ones the first one that is in time
		{plain(carry(2)), 180, []int{1, 2}, api.OK}, {plain(far2, carry(2)), 500, []int{1, 2}, api.OK}, {plain(turned, carry(2)), 130, []int{2, 1}, api.OK}, {plain(turned, carry(2)), 139, []int{2, 1}, api.OK}, {plain(turned, carry(2)), 140, []int{1, 2}, api.OK}, {example(heavy, carry(3)), 99999, []int{3, 3}, api.OK}, {example(heavy, carry(4)), 99999, []int{2, 4}, api.OK}, {example(heavy, carry(5)), 99999, []int{1, 5}, api.OK}, {example(heavy), 99999, []int{6}, api.OK}, {example(heavy, carry(2)), 99999, []int{2, 2, 2}, api.OK},
		// the first second of all
		{plain(tear(50, 50), shows(998), near), 0, []int{3}, api.OK}, {plain(tear(0, 50), shows(998), near), 0, nil, api.ErrNone},
	} {
		if l, e := relay.Few(x.b, x.start); !slices.Equal(l, x.want) || e != x.e {
			t.Errorf("Few %d: %v, %d", i, l, e)
		}
	}
}

// P8.7: how many reels the boy must be able to carry.
func TestCarry(t *testing.T) {
	for i, x := range []struct {
		b           api.RelayBook
		start, want int
		e           api.Errno
	}{
		// the examples
		{example(far), 4600, 1, api.OK}, {example(far), 3110, 2, api.OK}, {example(far), 3000, 3, api.OK}, {example(far), 2900, 0, api.ErrNone},
		// just in time, and a second sooner
		{example(far), 4524, 1, api.OK}, {example(far), 4523, 2, api.OK}, {example(far), 3102, 2, api.OK}, {example(far), 3101, 3, api.OK}, {example(far), 2920, 3, api.OK}, {example(far), 2919, 0, api.ErrNone}, {example(), 1524, 1, api.OK}, {example(), 1523, 0, api.ErrNone}, {example(), 99999, 1, api.OK}, {example(), 0, 0, api.ErrNone},
		// whatever he carries in the book
		{example(far, carry(1)), 3000, 3, api.OK}, {example(far, carry(6)), 3110, 2, api.OK}, {example(far, carry(3)), 4600, 1, api.OK}, {example(heavy, carry(1)), 17640, 3, api.OK}, {example(heavy, carry(1)), 17639, 0, api.ErrNone}, {example(heavy), 22319, 3, api.OK}, {example(heavy), 22320, 2, api.OK}, {example(heavy), 41399, 2, api.OK}, {example(heavy), 41400, 1, api.OK}, {example(heavy), 99999, 1, api.OK},
		// no more than there are reels
		{plain(feet(7)), 37, 1, api.OK}, {plain(feet(7)), 36, 0, api.ErrNone}, {plain(feet(7, 7), far2), 214, 2, api.OK}, {plain(feet(7, 7), far2), 213, 0, api.ErrNone},
		// not by the plan with the fewest trips, nor by the best one
		{plain(), 200, 1, api.OK}, {plain(turned), 130, 1, api.OK}, {plain(turned), 129, 0, api.ErrNone}, {plain(tear(50, 50), shows(998), near), 0, 1, api.OK},
	} {
		if n, e := relay.Carry(x.b, x.start); n != x.want || e != x.e {
			t.Errorf("Carry %d: %d, %d", i, n, e)
		}
	}
}

// isSame tells if two books have the same reels.
func isSame(one, other api.RelayBook) bool {
	return slices.Equal(one.Film.Reels, other.Film.Reels)
}

// P8.8: arguments are only read, what lies behind a list among them.
func TestArgumentsAreRead(t *testing.T) {
	for _, x := range []api.RelayBook{example(), example(mixed), plain(tear(50, 50), shows(998))} {
		many := len(x.Film.Reels)
		x.Film.Reels = append(x.Film.Reels, api.ReelReel{Feet: span(77, 78)})[:many]
		a := asked{append([]int{1, 2}, 77)[:2], 3000}
		all := func() api.RelayBook {
			return with(x, func(b *api.RelayBook) { b.Film.Reels = slices.Clone(x.Film.Reels[:many+1]) })
		}
		old, oldPlan := all(), slices.Clone(a.plan[:3])
		for _, c := range append(calls(), call{name: "Check", ask: func(b api.RelayBook, a asked) (string, api.Errno) { return "", relay.Check(b) }}) {
			_, e := c.ask(x, a)
			right(t, c.name, e)
			if now := all(); !isSame(now, old) || !slices.Equal(a.plan[:3], oldPlan) {
				t.Errorf("%s changes its arguments: %v, %v", c.name, now, a.plan[:3])
			}
		}
	}
}

// P8.8: a result keeps what it is if an argument or another result is changed.
func TestResultsAreNew(t *testing.T) {
	type answers struct {
		there     []api.Span
		best, few []int
	}
	ask := func(x api.RelayBook, plan []int) (a answers) {
		var e api.Errno
		a.there, e = relay.There(x, plan)
		right(t, "There", e)
		a.best, e = relay.Best(x)
		right(t, "Best", e)
		a.few, e = relay.Few(x, 1722)
		right(t, "Few", e)
		return a
	}
	isRight := func(a answers) bool {
		return slices.Equal(a.there, []api.Span{span(9000, 12000), span(17400, 23200), span(17400, 23200)}) && slices.Equal(a.best, []int{1, 1, 1}) && slices.Equal(a.few, []int{1, 2})
	}
	x, plan := example(), []int{1, 2}
	first := ask(x, plan)
	clear(x.Film.Reels)
	clear(plan)
	if !isRight(first) {
		t.Errorf("a result shares memory with an argument: %v", first)
	}
	x, plan = example(), []int{1, 2}
	second := ask(x, plan)
	clear(first.there[:cap(first.there)])
	clear(first.best[:cap(first.best)])
	clear(first.few[:cap(first.few)])
	if !isRight(second) || !isSame(x, example()) || !slices.Equal(plan, []int{1, 2}) {
		t.Errorf("after a change of earlier results: %v", second)
	}
	if again := ask(example(), []int{1, 2}); !isRight(again) {
		t.Errorf("asked again after a change of results: %v", again)
	}
}

// right ends the test if there is an error.
func right(t *testing.T, name string, e api.Errno) {
	t.Helper()
	if e != api.OK {
		t.Fatalf("%s: %d", name, e)
	}
}

package till_test

import (
	"math"
	"testing"

	"bioscope/api"
	"bioscope/till"
)

// simple is a box of rolls of which just so many tickets are sold as told, at a price each; all of what they bring can be true.
func simple(changes ...change) api.TillBox {
	return example(append([]change{rolls(1), sells(0, 1, 0, 0), count(0), wrong(200), duty(0), share(0), guarantee(0)}, changes...)...)
}

// two lets the box have two rolls, three three.
func two(b *api.TillBox)   { rolls(2)(b) }
func three(b *api.TillBox) { rolls(3)(b) }

// wide lets so many numbers, from 0 on, be sold of each roll, at most 46, at a price of 1.
func wide(numbers ...int) change {
	return func(b *api.TillBox) {
		rolls(len(numbers))(b)
		for i, n := range numbers {
			b.Rolls[i] = api.TillRoll{Price: 1, First: span(0, 15), End: span(max(0, n-16), n-1)}
			b.Free[i] = span(0, 15)
		}
	}
}

// P9.1: what is a truth.
func TestIsTruth(t *testing.T) {
	for i, x := range []struct {
		b    api.TillBox
		sold []int
		want bool
	}{
		// the examples
		{example(), []int{31, 18}, true}, {example(), []int{30, 18}, false}, {example(), []int{28, 19}, true}, {example(), []int{33, 17}, false},
		{example(), []int{29, 19}, true}, {example(), []int{30, 19}, false},
		// just as many as can be sold of each roll, and one more
		{example(wrong(200)), []int{28, 18}, true}, {example(wrong(200)), []int{27, 18}, false}, {example(wrong(200)), []int{33, 18}, true}, {example(wrong(200)), []int{34, 18}, false}, {example(wrong(200)), []int{28, 17}, false}, {example(wrong(200)), []int{28, 20}, true}, {example(wrong(200)), []int{28, 21}, false}, {example(wrong(200)), []int{33, 20}, true},
		// just as much as can be counted, and a cent more
		{example(count(765)), []int{31, 18}, true}, {example(count(766)), []int{31, 18}, false}, {example(count(755)), []int{31, 18}, true}, {example(count(754)), []int{31, 18}, false}, {example(wrong(0)), []int{31, 18}, true}, {example(count(761), wrong(0)), []int{31, 18}, false}, {example(count(759), wrong(0)), []int{31, 18}, false}, {example(count(960), wrong(200)), []int{31, 18}, true}, {example(count(961), wrong(200)), []int{31, 18}, false}, {example(count(560), wrong(200)), []int{31, 18}, true}, {example(count(559), wrong(200)), []int{31, 18}, false},
		// no fewer than none are gone
		{simple(first(0, 5, 20), end(0, 0, 10)), []int{0}, true}, {simple(first(0, 5, 20), end(0, 0, 10)), []int{5}, true}, {simple(first(0, 5, 20), end(0, 0, 10)), []int{6}, false}, {simple(first(0, 5, 20), end(0, 0, 10)), []int{-1}, false}, {simple(first(0, 10, 20), end(0, 0, 10)), []int{0}, true}, {simple(first(0, 10, 20), end(0, 0, 10)), []int{1}, false}, {simple(first(0, 10, 20), end(0, 0, 10), free(0, 0, 9)), []int{0}, true}, {simple(first(0, 10, 20), end(0, 0, 10), free(0, 1, 9)), []int{0}, false},
		// no fewer than none are sold
		{simple(end(0, 10, 12), free(0, 11, 20)), []int{0}, true}, {simple(end(0, 10, 12), free(0, 11, 20)), []int{1}, true}, {simple(end(0, 10, 12), free(0, 11, 20)), []int{2}, false}, {simple(end(0, 10, 12), free(0, 12, 20)), []int{0}, true}, {simple(end(0, 10, 12), free(0, 12, 20)), []int{1}, false}, {simple(end(0, 10, 12), free(0, 13, 20)), []int{0}, false}, {simple(end(0, 10, 12), free(0, 11, 20)), []int{-1}, false}, {example(none), []int{0, 18}, false},
		// those that are free are sold no more
		{simple(end(0, 10, 10), free(0, 3, 3)), []int{7}, true}, {simple(end(0, 10, 10), free(0, 3, 3)), []int{10}, false}, {simple(end(0, 10, 10), free(0, 3, 4)), []int{6}, true}, {simple(end(0, 10, 10), free(0, 3, 4)), []int{5}, false}, {simple(end(0, 10, 10), free(0, 3, 4)), []int{8}, false},
		// the greatest numbers
		{simple(rolls(4), sells(0, 50, 300, 300), sells(1, 50, 300, 300), sells(2, 50, 300, 300), sells(3, 50, 300, 300), count(60000)), []int{300, 300, 300, 300}, true}, {simple(rolls(4), sells(0, 50, 300, 300), sells(1, 50, 300, 300), sells(2, 50, 300, 300), sells(3, 50, 285, 300), count(60000)), []int{300, 300, 300, 296}, true}, {simple(rolls(4), sells(0, 50, 300, 300), sells(1, 50, 300, 300), sells(2, 50, 300, 300), sells(3, 50, 285, 300), count(60000)), []int{300, 300, 300, 295}, false},
		// not a number for each roll, or one that can be no number of tickets
		{example(), nil, false}, {example(), []int{31}, false}, {example(), []int{31, 18, 0}, false}, {example(), []int{-1, 31}, false}, {example(), []int{18, 31}, false}, {example(), []int{math.MaxInt, 18}, false}, {example(), []int{31, math.MinInt}, false}, {example(), []int{math.MaxInt, math.MaxInt}, false}, {simple(), nil, false}, {simple(), []int{0, 0}, false}, {simple(), []int{0}, true},
	} {
		if is, e := till.IsTruth(x.b, x.sold); is != x.want || e != api.OK {
			t.Errorf("IsTruth %d: %v, %d", i, is, e)
		}
	}
}

// P9.1: how many truths there are.
func TestMany(t *testing.T) {
	for i, x := range []struct {
		b    api.TillBox
		want int
	}{
		// the examples
		{example(), 3}, {example(wrong(0)), 1}, {example(count(772)), 2},
		{example(count(1400)), 0}, {example(none), 0}, {example(wrong(200)), 18}, {example(count(780), wrong(0)), 2}, {example(count(530), wrong(200)), 1}, {example(count(529), wrong(200)), 0}, {example(count(1030), wrong(200)), 1}, {example(count(1031), wrong(200)), 0},
		// one roll, and several
		{simple(), 1}, {simple(wide(46)), 46}, {simple(wide(1)), 1}, {simple(wide(46), count(10), wrong(0)), 1}, {simple(wide(46), count(10), wrong(3)), 7}, {simple(wide(3, 4, 5, 6)), 360}, {simple(wide(3, 3), count(2), wrong(0)), 3}, {simple(wide(3, 3, 3), count(3), wrong(0)), 7},
		// a million, and one less, and more
		{simple(wide(37, 39, 33, 21)), 999999}, {simple(wide(25, 40, 40, 25)), 1000000}, {simple(wide(26, 40, 40, 25)), 1000000}, {simple(wide(46, 46, 46, 46)), 1000000},
		// not all of them with this Count
		{simple(wide(46, 46, 46, 46), count(0), wrong(0)), 1}, {simple(wide(46, 46, 46, 46), count(180), wrong(0)), 1}, {simple(wide(46, 46, 46, 46), count(181), wrong(0)), 0}, {simple(wide(46, 46, 46, 46), count(1), wrong(0)), 4}, {simple(wide(46, 46, 46, 46), count(0), wrong(2)), 15},
		// the greatest numbers
		{simple(rolls(4), sells(0, 50, 285, 300), sells(1, 50, 285, 300), sells(2, 50, 285, 300), sells(3, 50, 285, 300), count(60000), wrong(50)), 5}, {simple(rolls(4), sells(0, 50, 285, 300), sells(1, 50, 285, 300), sells(2, 50, 285, 300), sells(3, 50, 285, 300), count(60000)), 70}, {simple(wide(46, 46, 46, 46), price(0, 50), price(1, 50), price(2, 50), price(3, 50), count(9000)), 70}, {simple(wide(46, 46, 46, 46), price(0, 50), price(1, 50), price(2, 50), price(3, 50)), 70},
	} {
		if n, e := till.Many(x.b); n != x.want || e != api.OK {
			t.Errorf("Many %d: %d, %d", i, n, e)
		}
	}
}

// P9.2: how many tickets of a roll are sold.
func TestSold(t *testing.T) {
	for i, x := range []struct {
		b    api.TillBox
		roll int
		want api.Span
		e    api.Errno
	}{
		// the examples
		{example(), 0, span(28, 31), api.OK}, {example(), 1, span(18, 19), api.OK},
		{example(wrong(0)), 0, span(31, 31), api.OK}, {example(wrong(0)), 1, span(18, 18), api.OK}, {example(wrong(200)), 0, span(28, 33), api.OK}, {example(wrong(200)), 1, span(18, 20), api.OK}, {example(count(830)), 0, span(33, 33), api.OK}, {example(count(830)), 1, span(20, 20), api.OK}, {example(count(730)), 0, span(28, 28), api.OK}, {example(count(805)), 1, span(19, 20), api.OK},
		// as far as the other rolls let it
		{simple(two, sells(0, 1, 0, 9), sells(1, 10, 0, 9), count(25), wrong(0)), 0, span(5, 5), api.OK}, {simple(two, sells(0, 1, 0, 9), sells(1, 10, 0, 9), count(25), wrong(0)), 1, span(2, 2), api.OK}, {simple(two, sells(0, 1, 0, 15), sells(1, 10, 0, 9), count(25), wrong(0)), 0, span(5, 15), api.OK}, {simple(two, sells(0, 1, 0, 15), sells(1, 10, 0, 9), count(25), wrong(0)), 1, span(1, 2), api.OK}, {simple(wide(46, 46, 46, 46)), 3, span(0, 45), api.OK}, {simple(wide(46, 46, 46, 46), count(170), wrong(0)), 2, span(35, 45), api.OK}, {simple(wide(46, 46, 46, 46), count(7), wrong(0)), 0, span(0, 7), api.OK},
		// a roll of which nothing is known but one number
		{simple(two, sells(0, 1, 7, 7), sells(1, 1, 0, 9)), 0, span(7, 7), api.OK}, {simple(sells(0, 50, 300, 300), count(15000)), 0, span(300, 300), api.OK},
		// wrong questions come first
		{example(count(1400)), 0, span(0, 0), api.ErrTillNot}, {example(count(1400)), 2, span(0, 0), api.ErrTillAsk}, {example(none), 1, span(0, 0), api.ErrTillNot}, {example(), -1, span(0, 0), api.ErrTillAsk},
	} {
		if s, e := till.Sold(x.b, x.roll); s != x.want || e != x.e {
			t.Errorf("Sold %d: %v, %d", i, s, e)
		}
	}
}

// P9.2: whether so many tickets are sold.
func TestCan(t *testing.T) {
	gaps := simple(two, sells(0, 7, 0, 9), sells(1, 3, 0, 5), count(40), wrong(0))
	for i, x := range []struct {
		b          api.TillBox
		roll, sold int
		want       bool
		e          api.Errno
	}{
		// the examples
		{example(), 0, 30, false, api.OK}, {example(), 0, 31, true, api.OK},
		{example(), 0, 28, true, api.OK}, {example(), 0, 29, true, api.OK}, {example(), 0, 27, false, api.OK}, {example(), 0, 32, false, api.OK}, {example(), 0, 33, false, api.OK}, {example(), 0, 34, false, api.OK}, {example(), 1, 17, false, api.OK}, {example(), 1, 18, true, api.OK}, {example(), 1, 19, true, api.OK}, {example(), 1, 20, false, api.OK}, {example(), 1, 21, false, api.OK},
		// 40 is 4 times 7 and 4 times 3
		{gaps, 0, 4, true, api.OK}, {gaps, 0, 5, false, api.OK}, {gaps, 0, 3, false, api.OK}, {gaps, 1, 4, true, api.OK}, {gaps, 1, 5, false, api.OK}, {gaps, 1, 0, false, api.OK},
		{example(), 0, -1, false, api.OK}, {example(), 0, math.MaxInt, false, api.OK}, {example(), 1, math.MinInt, false, api.OK}, {example(), 1, 1 << 40, false, api.OK},
		// wrong questions come first
		{example(count(1400)), 0, 31, false, api.ErrTillNot}, {example(count(1400)), 2, 31, false, api.ErrTillAsk}, {example(), -1, 31, false, api.ErrTillAsk},
	} {
		if is, e := till.Can(x.b, x.roll, x.sold); is != x.want || e != x.e {
			t.Errorf("Can %d: %v, %d", i, is, e)
		}
	}
}

// P9.3: between what lie the takings, what the exchange gets, and what is left.
func TestMoney(t *testing.T) {
	greatest := simple(rolls(4), sells(0, 50, 300, 300), sells(1, 50, 300, 300), sells(2, 50, 300, 300), sells(3, 50, 299, 300), count(60000))
	for i, x := range []struct {
		b                   api.TillBox
		takings, hire, left api.Span
		e                   api.Errno
	}{
		// the examples
		{example(), span(755, 765), span(340, 344), span(340, 345), api.OK},
		{example(wrong(0)), span(760, 760), span(342, 342), span(342, 342), api.OK}, {example(wrong(200)), span(730, 830), span(328, 373), span(329, 374), api.OK}, {example(wrong(4)), span(760, 760), span(342, 342), span(342, 342), api.OK}, {example(count(735)), span(730, 740), span(328, 333), span(329, 333), api.OK}, {example(count(830), wrong(200)), span(730, 830), span(328, 373), span(329, 374), api.OK},
		// the guarantee, with some of the takings or all of them
		{example(guarantee(343)), span(755, 765), span(343, 344), span(337, 345), api.OK}, {example(guarantee(344)), span(755, 765), span(344, 344), span(336, 345), api.OK}, {example(guarantee(345)), span(755, 765), span(345, 345), span(335, 344), api.OK}, {example(guarantee(900)), span(755, 765), span(900, 900), span(-220, -211), api.OK}, {example(guarantee(60000)), span(755, 765), span(60000, 60000), span(-59320, -59311), api.OK},
		// all of it, or none
		{example(duty(100), guarantee(0)), span(755, 765), span(0, 0), span(0, 0), api.OK}, {example(duty(0), share(100)), span(755, 765), span(755, 765), span(0, 0), api.OK}, {example(duty(0), share(0), guarantee(0)), span(755, 765), span(0, 0), span(755, 765), api.OK}, {example(duty(100), share(100)), span(755, 765), span(300, 300), span(-300, -300), api.OK},
		{greatest, span(59950, 60000), span(0, 0), span(59950, 60000), api.OK}, {with(greatest, duty(33), share(33)), span(59950, 60000), span(13255, 13266), span(26912, 26934), api.OK},
		{example(count(1400)), span(0, 0), span(0, 0), span(0, 0), api.ErrTillNot}, {example(none), span(0, 0), span(0, 0), span(0, 0), api.ErrTillNot},
	} {
		if s, e := till.Takings(x.b); s != x.takings || e != x.e {
			t.Errorf("Takings %d: %v, %d", i, s, e)
		}
		if s, e := till.Hire(x.b); s != x.hire || e != x.e {
			t.Errorf("Hire %d: %v, %d", i, s, e)
		}
		if s, e := till.Left(x.b); s != x.left || e != x.e {
			t.Errorf("Left %d: %v, %d", i, s, e)
		}
	}
}

// P9.3: what is rounded, and of what a part is taken.
func TestParts(t *testing.T) {
	for i, x := range []struct{ takings, duty, share, guarantee, hire, left int }{
		{0, 0, 0, 0, 0, 0}, {0, 100, 100, 0, 0, 0}, {0, 10, 50, 5, 5, -5}, {0, 10, 50, 60000, 60000, -60000},
		// the duty is rounded down
		{1, 99, 0, 0, 0, 1}, {1, 100, 0, 0, 0, 0}, {199, 50, 0, 0, 0, 100}, {100, 1, 0, 0, 0, 99}, {99, 1, 0, 0, 0, 99}, {101, 1, 0, 0, 0, 100}, {7, 50, 0, 0, 0, 4},
		// so is the share, of what the duty leaves
		{1, 0, 99, 0, 0, 1}, {1, 0, 100, 0, 1, 0}, {100, 50, 50, 0, 25, 25}, {101, 50, 50, 0, 25, 26}, {199, 50, 1, 0, 1, 99}, {199, 51, 1, 0, 0, 98}, {200, 50, 99, 0, 99, 1}, {3, 50, 50, 0, 1, 1}, {150, 1, 67, 0, 99, 50},
		// the guarantee is more, or as much, or less
		{100, 0, 50, 49, 50, 50}, {100, 0, 50, 50, 50, 50}, {100, 0, 50, 51, 51, 49}, {100, 50, 50, 49, 49, 1}, {100, 50, 50, 50, 50, 0}, {100, 50, 50, 51, 51, -1}, {100, 100, 100, 1, 1, -1},
	} {
		b := simple(sells(0, 1, x.takings, x.takings), count(x.takings), duty(x.duty), share(x.share), guarantee(x.guarantee))
		hire, e := till.Hire(b)
		right(t, "Hire", e)
		left, e := till.Left(b)
		right(t, "Left", e)
		if hire != span(x.hire, x.hire) || left != span(x.left, x.left) {
			t.Errorf("%d: %v, %v", i, hire, left)
		}
	}
}

// P9.4: by how much the count must be wrong.
func TestWrong(t *testing.T) {
	for i, x := range []struct {
		b    api.TillBox
		want int
		e    api.Errno
	}{
		// the examples
		{example(), 0, api.OK}, {example(count(772)), 2, api.OK}, {example(count(1400)), 0, api.ErrNone},
		// whatever the Err of the box is
		{example(count(772), wrong(0)), 2, api.OK}, {example(count(772), wrong(1)), 2, api.OK}, {example(count(772), wrong(200)), 2, api.OK}, {example(count(830), wrong(0)), 0, api.OK}, {example(count(832), wrong(0)), 2, api.OK},
		// too much, too little, between two amounts
		{example(count(758)), 2, api.OK}, {example(count(757)), 2, api.OK}, {example(count(763)), 2, api.OK}, {example(count(735)), 5, api.OK}, {example(count(747)), 3, api.OK}, {example(count(744)), 4, api.OK}, {example(count(700)), 30, api.OK}, {example(count(729)), 1, api.OK}, {example(count(831)), 1, api.OK},
		// just what it can be wrong by, and a cent more
		{example(count(530)), 200, api.OK}, {example(count(529)), 0, api.ErrNone}, {example(count(1030)), 200, api.OK}, {example(count(1031)), 0, api.ErrNone}, {example(count(0)), 0, api.ErrNone}, {example(count(60000)), 0, api.ErrNone}, {simple(count(200)), 200, api.OK}, {simple(count(201)), 0, api.ErrNone}, {simple(), 0, api.OK},
		// nothing can be sold
		{example(none), 0, api.ErrNone}, {example(none, count(450)), 0, api.ErrNone}, {example(free(1, 21, 30), count(300)), 0, api.ErrNone},
	} {
		if n, e := till.Wrong(x.b); n != x.want || e != x.e {
			t.Errorf("Wrong %d: %d, %d", i, n, e)
		}
	}
}

// P9.5: which roll to look at again.
func TestAsk(t *testing.T) {
	for i, x := range []struct {
		b    api.TillBox
		want int
		e    api.Errno
	}{
		// the examples
		{example(), 0, api.OK}, {example(wrong(0)), 0, api.ErrNone},
		{example(count(772)), 0, api.OK}, {example(wrong(200)), 0, api.OK},
		// the roll of the most numbers, if all can be true
		{simple(wide(2, 4)), 1, api.OK}, {simple(wide(4, 2)), 0, api.OK}, {simple(wide(2, 3, 4)), 2, api.OK}, {simple(wide(2, 4, 3)), 1, api.OK}, {simple(wide(4, 3, 2)), 0, api.OK}, {simple(wide(2, 3, 4, 5)), 3, api.OK}, {simple(wide(1, 2)), 1, api.OK}, {simple(wide(46, 45, 46, 46)), 0, api.OK}, {simple(wide(45, 46, 46, 46)), 1, api.OK},
		// of several ones the first one
		{simple(wide(3, 3)), 0, api.OK}, {simple(wide(2, 3, 3)), 1, api.OK}, {simple(wide(3, 2, 3)), 0, api.OK}, {simple(wide(1, 1, 2, 2)), 2, api.OK}, {simple(wide(46, 46, 46, 46)), 0, api.OK}, {simple(wide(5)), 0, api.OK},
		// the roll of which each number leaves few truths, also if it has fewer numbers than another one
		{simple(two, sells(0, 1, 0, 5), sells(1, 10, 0, 3), count(12), wrong(2)), 0, api.OK}, {simple(two, sells(0, 10, 0, 3), sells(1, 1, 0, 2), count(11), wrong(1)), 1, api.OK}, {simple(three, sells(0, 50, 0, 5), sells(1, 50, 0, 5), sells(2, 1, 0, 1), count(50), wrong(0)), 0, api.OK}, {simple(three, sells(0, 1, 0, 9), sells(1, 10, 0, 9), sells(2, 1, 0, 1), count(33), wrong(0)), 0, api.OK}, {simple(three, sells(0, 10, 3, 9), sells(1, 1, 3, 3), sells(2, 1, 0, 1), count(33), wrong(1)), 2, api.OK},
		// just one truth, and none
		{simple(), 0, api.ErrNone}, {simple(wide(9, 9), wrong(0)), 0, api.ErrNone}, {simple(wide(9, 9), count(16), wrong(0)), 0, api.ErrNone}, {simple(wide(9, 9), count(17), wrong(0)), 0, api.ErrTillNot}, {simple(wide(9, 9), count(15), wrong(0)), 0, api.OK}, {example(count(1400)), 0, api.ErrTillNot}, {example(none), 0, api.ErrTillNot},
	} {
		if n, e := till.Ask(x.b); n != x.want || e != x.e {
			t.Errorf("Ask %d: %d, %d", i, n, e)
		}
	}
}

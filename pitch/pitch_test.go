package pitch_test

import (
	"math"
	"math/rand/v2"
	"slices"
	"testing"

	"bioscope/api"
	"bioscope/pitch"
)

// P2.1: Check, and that all functions return its error first.
func TestCheck(t *testing.T) {
	for name, g := range wrongGrounds() {
		if e := pitch.Check(g); e != api.ErrPitch {
			t.Errorf("Check of a ground with %s: %d", name, e)
		}
		for _, c := range calls() {
			for _, l := range [][]api.PitchPlace{nil, stood(), places(at(9, 9))} {
				for _, i := range []int{-1, 0, 1, 9} {
					if got, e := c.ask(g, l, i, 0); got != c.zero || e != api.ErrPitch {
						t.Errorf("%s of a ground with %s: %s, %d", c.name, name, got, e)
					}
				}
			}
		}
	}
}

// P2.1: what is just valid.
func TestCheckLimits(t *testing.T) {
	for i, g := range []api.PitchGround{
		example(), bare(1, 1, box(1, 1)), bare(6, 5, box(1, 1), box(1, 1), box(1, 1), box(1, 1)),
		// things that are larger than the ground
		bare(1, 1, box(6, 5)), bare(6, 1, box(6, 5), needy(1, 5)), bare(1, 5, thing(6, 1, 3, true, true)),
		example(trees(63, 63, 63, 63)), example(trees(0, 0, 0, 0)), with(bare(1, 1, box(1, 1)), trees(1)), with(bare(5, 2, box(1, 1)), trees(31, 16)),
		example(thingOf(0, thing(6, 5, 3, true, true))), example(thingOf(2, thing(1, 1, 0, false, false))),
		example(fire(0, 1, 6)), example(fire(0, 1, 0)), example(fire(0, 0, 6), fire(1, 1, 1)),
		example(rent(0)), example(rent(1000)),
	} {
		if e := pitch.Check(g); e != api.OK {
			t.Errorf("Check of the ground %d: %d", i, e)
		}
	}
	// a rule of a thing with itself changes nothing
	own := example(fire(0, 0, 6), fire(1, 1, 6), fire(2, 2, 6))
	if n, e := pitch.Cost(own); n != 250 || e != api.OK {
		t.Errorf("Cost with rules of things with themselves: %d, %d", n, e)
	}
	if is, e := pitch.IsPitch(own, stood()); !is || e != api.OK {
		t.Errorf("IsPitch with rules of things with themselves: %v, %d", is, e)
	}
	if l, e := pitch.Spots(own, stood(), 1); len(l) != 7 || e != api.OK {
		t.Errorf("Spots with rules of things with themselves: %v, %d", l, e)
	}
}

// P2.1: which places are one of a thing.
func TestIsPlace(t *testing.T) {
	square := bare(2, 2, thing(2, 2, 0, true, false), box(2, 2), thing(3, 1, 0, true, false), thing(1, 2, 3, false, true))
	for i, x := range []struct {
		g     api.PitchGround
		thing int
		p     api.PitchPlace
		want  bool
		e     api.Errno
	}{
		// the examples
		{example(), 0, at(0, 0), true, api.OK}, {example(), 0, at(3, 0), false, api.OK}, {example(), 0, turned(3, 0), true, api.OK}, {example(), 0, turned(4, 0), false, api.OK}, {example(), 1, at(5, 1), false, api.OK}, {example(), 1, turned(0, 0), false, api.OK},
		// at the edges of the ground, and beyond them
		{example(), 0, at(3, 2), true, api.OK}, {example(), 0, at(4, 2), false, api.OK}, {example(), 0, at(3, 3), false, api.OK}, {example(), 0, at(-1, 0), false, api.OK}, {example(), 0, at(0, -1), false, api.OK}, {example(), 0, turned(0, 1), true, api.OK}, {example(), 0, turned(0, 2), false, api.OK}, {example(), 0, turned(4, 1), false, api.OK}, {example(), 1, at(5, 0), true, api.OK}, {example(), 1, at(6, 0), false, api.OK}, {example(), 1, at(5, 3), true, api.OK}, {example(), 1, at(0, 4), false, api.OK}, {example(), 2, turned(5, 2), true, api.OK}, {example(), 2, turned(5, 0), false, api.OK}, {example(), 2, turned(5, 3), false, api.OK},
		{example(), 1, at(math.MaxInt, 0), false, api.OK}, {example(), 0, at(0, math.MaxInt), false, api.OK}, {example(), 0, turned(math.MinInt, math.MinInt), false, api.OK}, {example(), 0, at(math.MaxInt-1, math.MaxInt), false, api.OK},
		// squares can be turned, if they can; things can only stand turned, or not at all; ropes and fire do not matter
		{square, 0, at(0, 0), true, api.OK}, {square, 0, turned(0, 0), true, api.OK}, {square, 1, turned(0, 0), false, api.OK}, {square, 1, at(0, 0), true, api.OK}, {square, 2, at(0, 0), false, api.OK}, {square, 2, turned(0, 0), false, api.OK}, {square, 3, at(1, 0), true, api.OK}, {square, 3, at(1, 1), false, api.OK},
		{bare(1, 3, thing(3, 1, 0, true, false)), 0, turned(0, 0), true, api.OK}, {bare(1, 3, thing(3, 1, 0, true, false)), 0, at(0, 0), false, api.OK},
		{example(), 3, at(0, 0), false, api.ErrPitchAsk}, {example(), -1, at(0, 0), false, api.ErrPitchAsk}, {example(), math.MaxInt, at(9, 9), false, api.ErrPitchAsk}, {example(), math.MinInt, turned(0, 0), false, api.ErrPitchAsk},
	} {
		if is, e := pitch.IsPlace(x.g, x.thing, x.p); is != x.want || e != x.e {
			t.Errorf("IsPlace %d: %v, %d", i, is, e)
		}
	}
}

// P2.2: gaps, and the order of the errors.
func TestGap(t *testing.T) {
	wide := bare(6, 5, box(1, 1), box(1, 1), thing(1, 2, 3, true, true))
	for i, x := range []struct {
		g     api.PitchGround
		one   int
		p     api.PitchPlace
		other int
		q     api.PitchPlace
		want  int
		e     api.Errno
	}{
		// the examples
		{example(), 0, at(0, 0), 2, at(4, 3), 1, api.OK}, {example(), 0, at(0, 0), 1, at(2, 1), 0, api.ErrNone}, {example(), 0, at(0, 0), 1, at(3, 2), 0, api.OK},
		{example(), 2, at(4, 3), 0, at(0, 0), 1, api.OK}, {example(), 0, turned(0, 0), 1, at(5, 0), 3, api.OK}, {example(), 1, at(0, 3), 2, turned(5, 2), 4, api.OK},
		// side by side, over a corner, across, in depth, and the greater one of both
		{wide, 0, at(2, 2), 1, at(3, 2), 0, api.OK}, {wide, 0, at(2, 2), 1, at(3, 3), 0, api.OK}, {wide, 0, at(2, 2), 1, at(2, 1), 0, api.OK}, {wide, 0, at(0, 0), 1, at(5, 0), 4, api.OK}, {wide, 0, at(0, 4), 1, at(0, 0), 3, api.OK}, {wide, 0, at(0, 0), 1, at(2, 4), 3, api.OK}, {wide, 1, at(5, 0), 0, at(0, 2), 4, api.OK}, {wide, 0, at(1, 1), 1, at(3, 3), 1, api.OK}, {wide, 0, at(2, 0), 2, at(2, 3), 2, api.OK}, {wide, 0, at(0, 0), 2, turned(4, 0), 3, api.OK},
		{wide, 0, at(2, 2), 1, at(2, 2), 0, api.ErrNone}, {wide, 0, at(2, 3), 2, at(2, 2), 0, api.ErrNone}, {wide, 2, turned(1, 2), 0, at(2, 2), 0, api.ErrNone},
		// errors: the same thing twice, no thing, no place of the one or of the other
		{example(), 0, at(0, 0), 0, at(3, 2), 0, api.ErrPitchAsk}, {example(), 1, at(0, 0), 1, at(0, 0), 0, api.ErrPitchAsk}, {example(), 0, at(3, 0), 1, at(0, 0), 0, api.ErrPitchAsk}, {example(), 0, at(0, 0), 1, at(5, 1), 0, api.ErrPitchAsk}, {example(), 0, at(0, 0), 1, turned(4, 0), 0, api.ErrPitchAsk}, {example(), 0, at(0, 0), 3, at(5, 3), 0, api.ErrPitchAsk}, {example(), -1, at(0, 0), 1, at(5, 3), 0, api.ErrPitchAsk}, {example(), 1, at(5, 3), -1, at(0, 0), 0, api.ErrPitchAsk}, {example(), 3, at(0, 0), 1, at(5, 3), 0, api.ErrPitchAsk}, {example(), math.MaxInt, at(0, 0), math.MinInt, at(0, 0), 0, api.ErrPitchAsk},
		// they would cover a cell in common, but one is no place
		{example(), 0, at(3, 0), 1, at(3, 0), 0, api.ErrPitchAsk}, {example(), 0, at(3, 0), 1, at(5, 1), 0, api.ErrPitchAsk},
	} {
		if n, e := pitch.Gap(x.g, x.one, x.p, x.other, x.q); n != x.want || e != x.e {
			t.Errorf("Gap %d: %d, %d", i, n, e)
		}
	}
}

// P2.3: how few cells a way has, and the order of the errors.
func TestWay(t *testing.T) {
	l := places(at(0, 2), at(0, 0), at(4, 0))
	winding := with(bare(6, 5, needy(1, 1)), trees(0, 31, 0, 62, 0))
	wall := bare(2, 3, box(2, 1), needy(1, 1))
	hook := bare(3, 3, needy(1, 1))
	for i, x := range []struct {
		g     api.PitchGround
		l     []api.PitchPlace
		thing int
		want  int
		e     api.Errno
	}{
		// the examples
		{example(), l, 0, 2, api.OK}, {example(), l, 1, 0, api.OK}, {example(), l, 2, 0, api.OK},
		{example(), places(turned(0, 0), at(5, 2), turned(4, 2)), 1, 0, api.ErrNone}, {example(), places(turned(0, 0), at(5, 3), at(3, 2)), 1, 6, api.OK}, {example(), places(turned(0, 0), at(5, 3), at(2, 2)), 1, 4, api.OK}, {example(), stood(), 2, 2, api.OK},
		// a way that winds, one of one cell, and things that do not need a way
		{winding, places(at(5, 4)), 0, 14, api.OK}, {winding, places(at(0, 2)), 0, 7, api.OK}, {winding, places(at(5, 1)), 0, 1, api.OK}, {winding, places(at(3, 0)), 0, 0, api.OK}, {bare(2, 3, box(2, 1)), places(at(0, 2)), 0, 2, api.OK}, {bare(1, 5, box(1, 1)), places(at(0, 4)), 0, 4, api.OK},
		// a thing that covers the front needs no free cell
		{bare(2, 2, needy(2, 2)), places(at(0, 0)), 0, 0, api.OK}, {with(bare(2, 1, needy(1, 1)), trees(2)), places(at(0, 0)), 0, 0, api.OK},
		// another thing, or trees, between it and the road; nothing beside the ground is free
		{wall, places(at(0, 1), at(0, 2)), 1, 0, api.ErrNone}, {wall, places(at(0, 0), at(1, 2)), 1, 0, api.ErrNone}, {wall, places(at(0, 1), at(1, 0)), 0, 1, api.OK}, {wall, places(at(0, 2), at(1, 1)), 1, 1, api.OK}, {wall, places(at(0, 2), at(1, 1)), 0, 2, api.OK}, {with(hook, trees(7, 0, 0)), places(at(1, 1)), 0, 0, api.ErrNone},
		{with(hook, trees(6, 2, 0)), places(at(2, 1)), 0, 5, api.OK}, {with(bare(3, 2, needy(1, 1)), trees(6, 2)), places(at(2, 1)), 0, 0, api.ErrNone}, {with(hook, trees(3, 2, 0)), places(at(0, 1)), 0, 5, api.OK},
		// cells that share a corner are no neighbours
		{with(bare(2, 2, needy(1, 1)), trees(2, 1)), places(at(1, 1)), 0, 0, api.ErrNone}, {with(hook, trees(6, 1, 0)), places(at(1, 2)), 0, 0, api.ErrNone},
		// ropes and fire rules do not matter, but places do
		{example(), places(turned(0, 0), at(2, 0), turned(4, 2)), 1, 0, api.OK}, {example(fire(0, 2, 6)), stood(), 2, 2, api.OK},
		{example(), nil, 0, 0, api.ErrPitchAsk}, {example(), stood()[:2], 0, 0, api.ErrPitchAsk}, {example(), append(stood(), at(5, 0)), 0, 0, api.ErrPitchAsk}, {example(), stood(), 3, 0, api.ErrPitchAsk}, {example(), stood(), -1, 0, api.ErrPitchAsk}, {example(), stood(), math.MaxInt, 0, api.ErrPitchAsk},
		{example(), places(at(0, 0), at(0, 0), at(4, 2)), 2, 0, api.ErrPitchAsk}, {example(), places(at(0, 0), at(0, 0), at(4, 2)), 0, 0, api.ErrPitchAsk}, {example(), places(at(3, 0), at(0, 0), at(4, 2)), 2, 0, api.ErrPitchAsk}, {example(), places(at(0, 0), turned(5, 3), at(4, 2)), 1, 0, api.ErrPitchAsk}, {example(), places(at(0, 0), at(math.MaxInt, 0), at(4, 2)), 0, 0, api.ErrPitchAsk},
		// there is no way, but what is asked is wrong, too
		{with(wall, trees(3, 0, 0)), places(at(0, 1), at(0, 1)), 1, 0, api.ErrPitchAsk}, {with(wall, trees(3, 0, 0)), places(at(0, 0), at(0, 1)), 1, 0, api.ErrPitchAsk}, {with(wall, trees(3, 0, 0)), places(at(0, 1), at(0, 2)), 2, 0, api.ErrPitchAsk}, {with(wall, trees(3, 0, 0)), places(at(0, 1)), 0, 0, api.ErrPitchAsk},
	} {
		if n, e := pitch.Way(x.g, x.l, x.thing); n != x.want || e != x.e {
			t.Errorf("Way %d: %d, %d", i, n, e)
		}
	}
}

// P2.4: which places are a pitch.
func TestIsPitch(t *testing.T) {
	roped := example(thingOf(1, thing(1, 1, 1, false, true)))
	row := bare(6, 1, thing(1, 1, 1, false, false), thing(1, 1, 2, false, false))
	for i, x := range []struct {
		g    api.PitchGround
		l    []api.PitchPlace
		want bool
	}{
		// the examples: one that is, one too near, one without a way
		{example(), stood(), true}, {example(), places(turned(0, 0), at(2, 0), turned(4, 2)), false}, {example(), places(turned(0, 0), at(5, 2), turned(4, 2)), false},
		{example(), places(turned(3, 0), at(1, 0), turned(0, 1)), true}, {example(), places(turned(3, 0), at(1, 0), at(0, 1)), false}, {example(), places(at(0, 0), at(4, 3), turned(5, 2)), true}, {example(), places(turned(0, 0), at(3, 0), turned(3, 2)), false},
		// a thing on another one, on a tree, beside the ground, turned though it can not
		{example(), places(turned(0, 0), at(4, 2), turned(4, 2)), false}, {example(), places(at(3, 0), at(0, 0), at(0, 3)), false}, {example(), places(turned(0, 0), at(3, -1), turned(4, 2)), false}, {example(), places(turned(0, 0), turned(3, 0), turned(4, 2)), false}, {example(), places(turned(0, 0), at(math.MaxInt, math.MaxInt), turned(4, 2)), false},
		// both ropes together count, or else the fire rule, not the one and the other
		{roped, stood(), false}, {roped, places(turned(0, 0), at(4, 0), turned(4, 2)), true}, {row, places(at(0, 0), at(4, 0)), true}, {row, places(at(0, 0), at(3, 0)), false}, {row, places(at(4, 0), at(0, 0)), true}, {with(row, fire(0, 1, 3)), places(at(0, 0), at(4, 0)), true}, {with(row, fire(0, 1, 4)), places(at(0, 0), at(4, 0)), false}, {with(row, fire(0, 1, 4)), places(at(0, 0), at(5, 0)), true}, {with(row, fire(0, 1, 1)), places(at(0, 0), at(2, 0)), false},
		// a thing of no ropes can touch another one, even over all its side
		{bare(2, 2, box(2, 1), box(2, 1)), places(at(0, 0), at(0, 1)), true}, {bare(2, 2, needy(2, 1), needy(2, 1)), places(at(0, 0), at(0, 1)), false}, {bare(2, 2, needy(2, 1), box(2, 1)), places(at(0, 0), at(0, 1)), true}, {bare(2, 2, needy(2, 1), box(2, 1)), places(at(0, 1), at(0, 0)), false},
		// too few places, and too many
		{example(), stood()[:2], false}, {example(), nil, false}, {example(), append(stood(), at(5, 0)), false}, {example(), append(stood(), stood()...), false}, {bare(1, 1, box(1, 1)), places(at(0, 0)), true}, {bare(1, 1, box(1, 1)), nil, false},
	} {
		if is, e := pitch.IsPitch(x.g, x.l); is != x.want || e != api.OK {
			t.Errorf("IsPitch %d: %v, %d", i, is, e)
		}
	}
}

// P2.4 and P2.6: what a pitch costs, if there is one, and otherwise the most things that have one.
func TestCostAndMost(t *testing.T) {
	tent, one := box(3, 2), box(1, 1)
	for _, x := range []struct {
		g       api.PitchGround
		columns int
		most    []int
	}{
		// the examples
		{example(), 5, []int{0, 1, 2}}, {example(fire(0, 2, 6)), 0, []int{0, 1}},
		{example(rent(0)), 5, []int{0, 1, 2}}, {example(rent(1000)), 5, []int{0, 1, 2}}, {example(fire(0, 2, 3)), 6, []int{0, 1, 2}}, {example(fire(0, 2, 0)), 3, []int{0, 1, 2}}, {example(trees(63, 63, 63, 63)), 0, nil},
		{bare(3, 4, needy(3, 2), needy(3, 2)), 0, []int{0}}, {bare(4, 4, needy(3, 2), needy(3, 2)), 3, []int{0, 1}}, {bare(3, 4, needy(3, 2), tent), 3, []int{0, 1}},
		// columns between things count, those beside them do not
		{bare(6, 4, tent, tent), 3, []int{0, 1}}, {bare(6, 3, tent, tent), 6, []int{0, 1}}, {bare(5, 3, tent, tent), 0, []int{0}}, {bare(5, 3, tent, thing(3, 2, 0, true, false)), 5, []int{0, 1}}, {with(bare(6, 1, one, one), trees(30)), 6, []int{0, 1}}, {with(bare(6, 1, one, one), trees(21)), 3, []int{0, 1}}, {with(bare(6, 1, one), trees(31)), 1, []int{0}}, {bare(6, 5, thing(1, 1, 2, false, false), thing(1, 1, 2, false, false)), 6, []int{0, 1}}, {bare(6, 5, thing(1, 1, 2, false, false), thing(1, 1, 1, false, false)), 1, []int{0, 1}}, {bare(6, 5, thing(1, 1, 3, false, false), thing(1, 1, 3, false, false)), 0, []int{0}},
		// four things, of which each one must be counted
		{bare(6, 5, one, one, one, one), 1, []int{0, 1, 2, 3}}, {bare(6, 3, one, one, one, one), 2, []int{0, 1, 2, 3}}, {bare(4, 1, one, one, one, one), 4, []int{0, 1, 2, 3}}, {bare(3, 1, one, one, one, one), 0, []int{0, 1, 2}}, {bare(6, 5, needy(2, 2), needy(2, 2), needy(2, 2), needy(2, 2)), 4, []int{0, 1, 2, 3}}, {bare(6, 5, box(3, 2), box(3, 2), box(3, 2), box(3, 2)), 6, []int{0, 1, 2, 3}}, {bare(6, 5, box(3, 2), box(3, 2), box(3, 2), needy(6, 1)), 6, []int{0, 1, 2, 3}}, {bare(6, 5, needy(3, 2), box(3, 2), box(3, 2), needy(6, 2)), 0, []int{0, 1, 2}},
		// a thing that only stands turned, and one that never stands
		{bare(1, 3, thing(3, 1, 0, true, true)), 1, []int{0}}, {bare(1, 3, box(3, 1)), 0, nil}, {bare(1, 3, box(3, 1), one), 0, []int{1}},
		// the most things, and of several such lists the first one
		{bare(1, 2, one, box(1, 2), one), 0, []int{0, 2}}, {bare(1, 2, box(1, 2), one, one), 0, []int{1, 2}}, {bare(2, 1, box(2, 1), box(2, 1)), 0, []int{0}}, {bare(2, 1, one, one, one), 0, []int{0, 1}}, {bare(2, 1, box(2, 1), one, box(1, 1), box(1, 1)), 0, []int{1, 2}}, {bare(2, 5, tent, box(2, 5), one), 0, []int{1}}, {bare(2, 1, box(3, 1), box(2, 1), one, one), 0, []int{2, 3}}, {bare(2, 2, box(2, 1), box(2, 2), box(2, 1), one), 0, []int{0, 2}}, {bare(2, 2, box(2, 2), box(2, 1), one, one), 0, []int{1, 2, 3}}, {bare(4, 1, box(3, 1), box(2, 1), box(2, 1), one), 0, []int{0, 3}},
		// things that can not stand beside one another, but beside others
		{with(bare(6, 5, one, one, one, one), fire(0, 1, 6)), 0, []int{0, 2, 3}}, {with(bare(6, 5, one, one, one, one), fire(0, 1, 6), fire(0, 2, 6)), 0, []int{1, 2, 3}}, {with(bare(6, 5, one, one, one, one), fire(0, 1, 6), fire(2, 3, 6)), 0, []int{0, 2}},
	} {
		checkPitch(t, x.g, x.columns)
		checkMost(t, x.g, x.most)
	}
	if n, e := pitch.Cost(example()); n != 250 || e != api.OK {
		t.Errorf("Cost of the example: %d, %d", n, e)
	}
}

// P2.4: with many places for each thing, but few pitches or none, an answer still comes.
func TestManyPlaces(t *testing.T) {
	long, small := thing(1, 2, 0, true, true), thing(1, 1, 0, true, true)
	for i, x := range []struct {
		g       api.PitchGround
		columns int
		most    []int
	}{
		{with(bare(6, 5, small, small, small, small), fire(0, 3, 5)), 0, []int{0, 1, 2}},
		{with(bare(6, 5, small, small, small, small), fire(2, 3, 4)), 6, []int{0, 1, 2, 3}},
		{with(bare(6, 5, long, long, long, long), fire(2, 3, 5)), 0, []int{0, 1, 2}},
		{with(bare(6, 5, long, long, long, thing(4, 4, 3, true, true)), trees(1, 0, 0, 0, 32)), 0, []int{0, 1, 2}},
	} {
		if n, e := pitch.Cost(x.g); n != x.columns || (e == api.OK) != (x.columns > 0) {
			t.Errorf("Cost %d: %d, %d", i, n, e)
		}
		checkMost(t, x.g, x.most)
	}
}

// P2.5: all places of a thing beside the others.
func TestSpots(t *testing.T) {
	square := bare(2, 2, thing(1, 1, 0, true, false), box(2, 1))
	of1 := places(at(3, 0), at(3, 1), at(3, 2), at(3, 3), at(4, 0), at(4, 1), at(5, 0))
	for i, x := range []struct {
		g     api.PitchGround
		l     []api.PitchPlace
		thing int
		want  []api.PitchPlace
		e     api.Errno
	}{
		// the example; where the thing itself is put does not matter
		{example(), stood(), 1, of1, api.OK}, {example(), places(turned(0, 0), at(5, 2), turned(4, 2)), 1, of1, api.OK}, {example(), places(turned(0, 0), at(-9, 99), turned(4, 2)), 1, of1, api.OK}, {example(), places(turned(0, 0), turned(math.MaxInt, math.MinInt), turned(4, 2)), 1, of1, api.OK}, {example(), places(turned(0, 0), at(0, 0), turned(4, 2)), 1, of1, api.OK},
		{example(), stood(), 0, places(turned(0, 0), turned(0, 1)), api.OK}, {example(), stood(), 2, places(at(4, 0), turned(4, 0), turned(4, 1), at(4, 2), turned(4, 2), at(4, 3), turned(5, 2)), api.OK},
		// by column, by row, and a square both ways
		{square, places(at(9, 9), at(0, 1)), 0, places(at(0, 0), turned(0, 0), at(1, 0), turned(1, 0)), api.OK}, {bare(2, 3, thing(1, 2, 0, true, true)), places(at(0, 0)), 0, places(at(0, 0), turned(0, 0), at(0, 1), turned(0, 1), turned(0, 2), at(1, 0), at(1, 1)), api.OK}, {bare(2, 2, thing(2, 1, 3, true, false)), places(at(1, 1)), 0, places(at(0, 0), turned(0, 0), at(0, 1), turned(1, 0)), api.OK},
		// others that are near one another, have no way, or no place of their own leave none
		{example(fire(0, 2, 6)), stood(), 1, nil, api.OK}, {example(), places(turned(0, 0), at(3, 0), at(5, 5)), 1, nil, api.OK}, {example(), places(at(3, 0), at(3, 0), turned(4, 2)), 1, nil, api.OK}, {example(), places(turned(0, 0), at(5, 2), turned(4, 2)), 0, nil, api.OK}, {bare(2, 2, box(2, 2), box(1, 1)), places(at(0, 0), at(0, 0)), 1, nil, api.OK}, {bare(1, 1, box(2, 1)), places(at(0, 0)), 0, nil, api.OK},
		// a spot that takes another one's way is none
		{bare(2, 2, needy(2, 1), box(1, 1)), places(at(0, 1), at(0, 0)), 1, places(at(0, 0), at(1, 0)), api.OK}, {bare(1, 3, needy(1, 1), box(1, 1)), places(at(0, 1), at(0, 0)), 1, places(at(0, 2)), api.OK},
		{example(), nil, 1, nil, api.ErrPitchAsk}, {example(), stood()[:2], 1, nil, api.ErrPitchAsk}, {example(), append(stood(), at(5, 0)), 1, nil, api.ErrPitchAsk}, {example(), stood(), 3, nil, api.ErrPitchAsk}, {example(), stood(), -1, nil, api.ErrPitchAsk}, {example(), append(stood(), at(5, 0)), 3, nil, api.ErrPitchAsk}, {example(), stood(), math.MinInt, nil, api.ErrPitchAsk},
	} {
		if l, e := pitch.Spots(x.g, x.l, x.thing); !slices.Equal(l, x.want) || e != x.e {
			t.Errorf("Spots %d: %v, %d", i, l, e)
		}
	}
}

// P2.7: arguments are only read, what lies behind a list among them.
func TestArgumentsAreRead(t *testing.T) {
	for _, g := range []api.PitchGround{example(), example(fire(0, 2, 6)), example(trees(63, 63, 63, 63))} {
		g.Trees = append(g.Trees, 77, 78)[:4]
		g.Things = append(g.Things, thing(7, 7, 7, true, true))[:3]
		for i, row := range g.Fire {
			g.Fire[i] = append(row, 77)[:3]
		}
		l := append(stood(), at(77, 78))[:3]
		old, oldList := copyOf(whole(g)), slices.Clone(l[:4])
		for _, c := range calls() {
			for i := range 3 {
				c.ask(g, l, i, (i+1)%3)
			}
			if !isSame(whole(g), old) || !slices.Equal(l[:4], oldList) {
				t.Errorf("%s changes its arguments: %v, %v", c.name, whole(g), l[:4])
			}
		}
	}
}

// whole is a ground with all that lies behind its lists.
func whole(g api.PitchGround) api.PitchGround {
	g.Trees, g.Things, g.Fire = g.Trees[:cap(g.Trees)], g.Things[:cap(g.Things)], slices.Clone(g.Fire)
	for i, row := range g.Fire {
		g.Fire[i] = row[:cap(row)]
	}
	return g
}

func isSame(one, other api.PitchGround) bool {
	return slices.Equal(one.Trees, other.Trees) && slices.Equal(one.Things, other.Things) && slices.EqualFunc(one.Fire, other.Fire, slices.Equal)
}

// P2.7: a result keeps what it is if an argument or another result is changed.
func TestResultsAreNew(t *testing.T) {
	for i := range 3 {
		g, l := example(), stood()
		one, e := pitch.Spots(g, l, i)
		right(t, "Spots", e)
		want := slices.Clone(one)
		clear(g.Things)
		clear(l)
		if !slices.Equal(one, want) {
			t.Errorf("Spots shares memory with an argument")
		}
		two, _ := pitch.Spots(example(), stood(), i)
		for k := range one {
			one[k] = at(99, 99)
		}
		again, _ := pitch.Spots(example(), stood(), i)
		if !slices.Equal(two, want) || !slices.Equal(again, want) {
			t.Errorf("Spots after a change of an earlier result: %v, %v, not %v", two, again, want)
		}
	}
	g := example()
	one, e := pitch.Pitch(g)
	right(t, "Pitch", e)
	want := slices.Clone(one)
	clear(g.Things)
	if !slices.Equal(one, want) {
		t.Errorf("Pitch shares memory with an argument")
	}
	two, _ := pitch.Pitch(example())
	for k := range one {
		one[k] = at(99, 99)
	}
	again, _ := pitch.Pitch(example())
	if !isPitch(example(), two) || !isPitch(example(), again) {
		t.Errorf("Pitch after a change of an earlier result: %v, %v", two, again)
	}
	most, _ := pitch.Most(example())
	other, _ := pitch.Most(example())
	clear(most)
	last, _ := pitch.Most(example())
	if !slices.Equal(other, []int{0, 1, 2}) || !slices.Equal(last, []int{0, 1, 2}) {
		t.Errorf("Most after a change of an earlier result: %v, %v", other, last)
	}
}

// P1: no function panics or goes on for ever, and with an error all else is zero.
func TestAnyArguments(t *testing.T) {
	grounds := []api.PitchGround{example(), example(fire(0, 2, 6)), example(trees(63, 63, 63, 63)), bare(1, 1, box(6, 5)), bare(6, 5, needy(1, 1), needy(2, 1), box(6, 1), box(1, 5))}
	for _, g := range wrongGrounds() {
		grounds = append(grounds, g)
	}
	numbers := []int{math.MinInt, -1, 0, 1, 3, 4, math.MaxInt}
	lists := [][]api.PitchPlace{nil, places(), stood(), make([]api.PitchPlace, 4), make([]api.PitchPlace, 5000)}
	for _, x := range []int{math.MinInt, -1, 5, math.MaxInt} {
		for _, y := range []int{math.MinInt, 4, math.MaxInt} {
			lists = append(lists, places(turned(x, y), at(x, y), turned(y, x)), places(at(0, 0), at(x, y), at(y, x)))
		}
	}
	for _, g := range grounds {
		for _, c := range calls() {
			for _, l := range lists {
				for k, i := range numbers {
					if got, e := c.ask(g, l, i, numbers[len(numbers)-1-k]); e != api.OK && got != c.zero {
						t.Fatalf("%s: %s with the error %d", c.name, got, e)
					}
				}
			}
		}
	}
}

// P2: the same arguments have the same result, whatever was called before, and in whatever memory they are; also R3, that a nil list is like an empty one.
func TestSameResults(t *testing.T) {
	r := rand.New(rand.NewPCG(19, 20))
	type question struct {
		g       api.PitchGround
		l       []api.PitchPlace
		i, k    int
		answers []string
	}
	var questions []question
	ask := func(q question) (answers []string) {
		for _, c := range calls() {
			got, e := c.ask(copyOf(q.g), slices.Clone(q.l), q.i, q.k)
			answers = append(answers, got, string(rune('0'+e)))
		}
		return answers
	}
	for range 60 {
		g := someGround(r, 6, 5, 4)
		l, _ := somePitch(r, g)
		q := question{g: g, l: l, i: r.IntN(len(l)), k: r.IntN(len(l))}
		q.answers = ask(q)
		questions = append(questions, q)
	}
	for _, k := range r.Perm(len(questions)) {
		if got := ask(questions[k]); !slices.Equal(got, questions[k].answers) {
			t.Errorf("the question %d: first %v, then %v", k, questions[k].answers, got)
		}
	}
	for _, c := range calls() {
		for _, g := range []api.PitchGround{example(), example(func(g *api.PitchGround) { g.Trees = []int{} })} {
			a, e := c.ask(g, nil, 0, 1)
			b, f := c.ask(g, places(), 0, 1)
			if a != b || e != f {
				t.Errorf("%s: %s, %d of a nil list; %s, %d of an empty one", c.name, a, e, b, f)
			}
		}
	}
}

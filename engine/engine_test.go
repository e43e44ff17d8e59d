package engine_test

import (
	"math"
	"slices"
	"testing"

	"bioscope/api"
	"bioscope/engine"
)

// P4.1: between what lies the current, and the order of the errors.
func TestCurrent(t *testing.T) {
	for i, x := range []struct {
		b     api.EngineBook
		water int
		want  api.Span
		e     api.Errno
	}{
		// the examples
		{example(), 9, span(12, 16), api.OK}, {example(), 10, span(20, 24), api.OK},
		{example(), 0, span(12, 16), api.OK}, {example(), 40, span(20, 24), api.OK}, {example(mark(0)), 0, span(20, 24), api.OK}, {example(mark(1)), 0, span(12, 16), api.OK}, {example(mark(40)), 39, span(12, 16), api.OK}, {example(mark(40)), 40, span(20, 24), api.OK},
		// the lamp and the water at first do not matter
		{example(lamp(60)), 31, span(20, 24), api.OK}, {example(water(0, 0)), 31, span(20, 24), api.OK}, {example(water(40, 40)), 3, span(12, 16), api.OK}, {example(weak(20, 24)), 3, span(20, 24), api.OK},
		// no such water
		{example(), -1, span(0, 0), api.ErrEngineAsk}, {example(), 41, span(0, 0), api.ErrEngineAsk}, {example(tank(99)), 99, span(20, 24), api.OK}, {example(tank(99)), 100, span(0, 0), api.ErrEngineAsk}, {example(tank(30)), 31, span(0, 0), api.ErrEngineAsk}, {example(), math.MaxInt, span(0, 0), api.ErrEngineAsk}, {example(), math.MinInt, span(0, 0), api.ErrEngineAsk},
		{example(lamp(61)), -1, span(0, 0), api.ErrEngine},
	} {
		if s, e := engine.Current(x.b, x.water); s != x.want || e != x.e {
			t.Errorf("Current %d: %v, %d", i, s, e)
		}
	}
}

// notPlans are lists that are no plan of the examples' evening.
func notPlans() [][]api.EngineWalks {
	return [][]api.EngineWalks{
		nil, {}, enough()[:3], append(enough(), api.EngineWalks{}), plan(0, 0), make([]api.EngineWalks, 1000),
		plan(1, 0, 2, 0, 1, 0, 2, 1), plan(0, 1, 2, 0, 1, 0, 2, 1), plan(0, 0, 3, 0, 1, 0, 2, 1), plan(0, 0, 2, 1, 1, 0, 2, 1), plan(0, 0, 0, 3, 1, 0, 2, 1), plan(0, 0, 2, 0, 1, 1, 2, 1), plan(0, 0, 2, 0, 1, 0, 6, 0), plan(0, 0, 2, 0, 1, 0, 3, 3), plan(0, 0, 2, 0, 1, 0, 0, 6),
		plan(0, 0, -1, 0, 1, 0, 2, 1), plan(0, 0, 2, -1, 1, 0, 2, 1), plan(0, 0, -1, 3, 1, 0, 2, 1), plan(0, 0, 3, -1, 1, 0, 2, 1), plan(0, 0, 2, 0, 1, 0, 6, -1), plan(0, 0, 2, 0, 1, 0, -1, 6),
		plan(0, 0, 2, 0, 1, 0, math.MaxInt, math.MaxInt), plan(0, 0, 2, 0, 1, 0, math.MaxInt, 1), plan(0, 0, 2, 0, 1, 0, 1, math.MaxInt), plan(0, 0, 2, 0, 1, 0, math.MinInt, math.MinInt), plan(0, 0, 2, 0, 1, 0, math.MinInt, math.MaxInt), plan(0, 0, 2, 0, 1, 0, 0, math.MinInt), plan(0, 0, 2, 0, 1, 0, math.MaxInt, math.MinInt),
	}
}

// P4.2 and P4.3: which lists are no plan.
func TestNoPlan(t *testing.T) {
	for i, l := range notPlans() {
		for part := range 4 {
			if c, w, e := engine.Left(example(), l, part); c != span(0, 0) || w != span(0, 0) || e != api.ErrEngineAsk {
				t.Errorf("Left of %d by no plan %d: %v, %v, %d", part, i, c, w, e)
			}
		}
		if n, e := engine.Fails(example(), l); n != 0 || e != api.ErrEngineAsk {
			t.Errorf("Fails by no plan %d: %d, %d", i, n, e)
		}
	}
	for _, part := range []int{-1, 4, 5, math.MaxInt, math.MinInt} {
		// the engine stands still by the second of these plans
		for _, l := range [][]api.EngineWalks{enough(), plan(0, 0, 0, 0, 0, 0, 0, 0), nil} {
			if c, w, e := engine.Left(example(), l, part); c != span(0, 0) || w != span(0, 0) || e != api.ErrEngineAsk {
				t.Errorf("Left of the part %d: %v, %v, %d", part, c, w, e)
			}
		}
	}
	// all walks that there can be are a plan
	for _, l := range [][]api.EngineWalks{plan(0, 0, 2, 0, 1, 0, 5, 0), plan(0, 0, 0, 2, 0, 1, 0, 5), plan(0, 0, 1, 1, 0, 1, 2, 3), plan(0, 0, 0, 0, 0, 0, 0, 0)} {
		if _, _, e := engine.Left(example(), l, 0); e != api.OK {
			t.Errorf("Left by %v: %d", l, e)
		}
		if _, e := engine.Fails(example(), l); e == api.ErrEngineAsk {
			t.Errorf("Fails by %v: %d", l, e)
		}
	}
}

// single is an evening of one part.
func single(p api.EnginePart, changes ...change) api.EngineBook {
	return example(append([]change{parts(p)}, changes...)...)
}

// P4.2: what is left.
func TestLeft(t *testing.T) {
	none, stands := span(0, 0), api.ErrEngineStands
	idle, lit := part(10, 10, false, 5), part(2, 10, true, 5)
	for i, x := range []struct {
		b           api.EngineBook
		plan        []api.EngineWalks
		part        int
		coal, water api.Span
		e           api.Errno
	}{
		// the examples
		{example(), enough(), 1, span(2, 26), span(12, 20), api.OK}, {example(), enough(), 3, span(0, 32), span(10, 22), api.OK}, {example(), plan(0, 0, 1, 0, 1, 0, 2, 1), 1, none, none, stands},
		{example(), enough(), 0, span(14, 24), span(24, 30), api.OK}, {example(), enough(), 2, span(4, 32), span(8, 20), api.OK},
		// what comes later does not matter, what was before does
		{example(), plan(0, 0, 1, 0, 1, 0, 2, 1), 0, span(14, 24), span(24, 30), api.OK}, {example(), plan(0, 0, 1, 0, 1, 0, 2, 1), 2, none, none, stands}, {example(), plan(0, 0, 1, 0, 1, 0, 5, 0), 3, none, none, stands}, {example(), plan(0, 0, 2, 0, 0, 0, 0, 0), 1, span(2, 26), span(12, 20), api.OK}, {example(), plan(0, 0, 2, 0, 0, 0, 0, 0), 2, none, none, stands},
		// it does not matter if there is light
		{example(lamp(60)), enough(), 3, span(0, 32), span(10, 22), api.OK}, {example(mark(40)), enough(), 3, span(0, 32), span(10, 22), api.OK},
		// just enough, and one too few: of coal, of water, of what there was at the least
		{single(idle, coal(10, 10)), plan(0, 0), 0, span(0, 10), span(20, 30), api.OK}, {single(idle, coal(9, 40)), plan(0, 0), 0, none, none, stands}, {single(idle, water(10, 30)), plan(0, 0), 0, span(10, 24), span(0, 30), api.OK}, {single(idle, water(9, 30)), plan(0, 0), 0, none, none, stands}, {single(idle, coal(4, 6)), plan(1, 0), 0, span(0, 12), span(20, 30), api.OK}, {single(idle, coal(3, 6)), plan(1, 0), 0, none, none, stands}, {single(idle, water(0, 1)), plan(0, 1), 0, span(10, 24), span(0, 11), api.OK}, {single(idle, water(0, 0), pail(9)), plan(0, 1), 0, none, none, stands},
		// with and without light, short and long
		{single(lit), plan(0, 0), 0, span(0, 22), span(20, 28), api.OK}, {single(lit, burn(1, 3, 3)), plan(2, 0), 0, span(2, 30), span(20, 28), api.OK}, {single(lit, burn(1, 0, 0), drink(1, 0, 3)), plan(0, 0), 0, span(20, 24), span(0, 30), api.OK}, {single(lit, burn(0, 3, 3), drink(0, 3, 3)), plan(0, 0), 0, span(0, 22), span(20, 28), api.OK}, {single(idle, burn(1, 3, 3), drink(1, 3, 3)), plan(0, 0), 0, span(10, 24), span(20, 30), api.OK}, {single(part(60, 60, true, 0), burn(1, 0, 0), drink(1, 0, 0), coal(0, 1), water(0, 2)), plan(0, 0), 0, span(0, 1), span(0, 2), api.OK},
		// what has no room is left on the ground: of all, of what there is at the most, of the last walk; also if there is no more room at all
		{single(idle), plan(5, 0), 0, span(30, 40), span(20, 30), api.OK}, {single(idle), plan(2, 0), 0, span(22, 36), span(20, 30), api.OK}, {single(idle), plan(3, 0), 0, span(28, 40), span(20, 30), api.OK}, {single(idle), plan(0, 2), 0, span(10, 24), span(30, 40), api.OK}, {single(idle), plan(2, 3), 0, span(22, 36), span(30, 40), api.OK}, {single(idle, coal(40, 40), water(40, 40)), plan(2, 3), 0, span(30, 40), span(30, 40), api.OK}, {single(idle, bunker(99), scoop(20)), plan(3, 0), 0, span(70, 84), span(20, 30), api.OK}, {single(idle, tank(31), pail(1)), plan(0, 5), 0, span(10, 24), span(21, 31), api.OK}, {single(idle, tank(99), pail(20)), plan(0, 3), 0, span(10, 24), span(80, 90), api.OK}, {single(idle, bunker(99), tank(99)), plan(2, 3), 0, span(22, 36), span(50, 60), api.OK},
		{single(part(30, 30, false, 5), bunker(24)), plan(5, 0), 0, none, none, stands},
		// walks come before their part
		{example(parts(part(6, 6, false, 5), part(1, 1, false, 5)), bunker(24)), plan(1, 0, 0, 0), 1, span(17, 24), span(23, 30), api.OK}, {example(parts(part(6, 6, false, 5), part(1, 1, false, 5)), bunker(24)), plan(0, 0, 1, 0), 1, span(19, 24), span(23, 30), api.OK},
		// five parts
		{example(parts(idle, idle, idle, idle, idle)), plan(0, 0, 1, 0, 2, 3, 1, 1, 1, 1), 4, span(0, 40), span(30, 40), api.OK},
	} {
		c, w, e := engine.Left(x.b, x.plan, x.part)
		if c != x.coal || w != x.water || e != x.e {
			t.Errorf("Left %d: %v, %v, %d", i, c, w, e)
		}
	}
}

// P4.3: the first part that may fail.
func TestFails(t *testing.T) {
	idle, lit := part(10, 10, false, 5), part(10, 10, true, 5)
	no := plan(0, 0)
	for i, x := range []struct {
		b    api.EngineBook
		plan []api.EngineWalks
		want int
		e    api.Errno
	}{
		// the examples
		{example(), enough(), 0, api.ErrNone}, {example(), plan(0, 0, 1, 0, 1, 0, 2, 1), 1, api.OK}, {example(), plan(0, 0, 2, 0, 0, 1, 3, 1), 2, api.OK}, {example(), plan(0, 0, 2, 0, 1, 0, 3, 0), 3, api.OK},
		// all parts fail, or none; the first one does
		{example(minutes(0, 5, 21)), enough(), 0, api.OK}, {example(minutes(0, 5, 9)), enough(), 1, api.OK}, {example(coal(0, 24)), enough(), 0, api.OK}, {example(coal(0, 24), burn(0, 0, 0)), enough(), 1, api.OK}, {example(), plan(0, 0, 2, 0, 1, 0, 3, 2), 0, api.ErrNone}, {example(), plan(0, 0, 0, 0, 0, 0, 0, 0), 1, api.OK},
		// the engine stands still for want of coal, of water, also without light; just enough
		{single(idle, coal(10, 10)), no, 0, api.ErrNone}, {single(idle, coal(9, 24)), no, 0, api.OK}, {single(idle, water(10, 10)), no, 0, api.ErrNone}, {single(idle, water(9, 30)), no, 0, api.OK}, {single(lit, water(9, 30), mark(0)), no, 0, api.OK}, {single(lit, water(10, 30), mark(0)), no, 0, api.ErrNone}, {single(lit, coal(19, 24)), no, 0, api.OK}, {single(lit, coal(20, 20)), no, 0, api.ErrNone},
		// the water falls below the mark in the last minute, or just does not; only light matters, and only if the lamp needs more
		{single(lit, water(20, 30)), no, 0, api.ErrNone}, {single(lit, water(19, 30)), no, 0, api.OK}, {single(lit, water(19, 30)), plan(0, 1), 0, api.ErrNone}, {single(idle, water(19, 30)), no, 0, api.ErrNone}, {single(lit, water(19, 30), lamp(12)), no, 0, api.ErrNone}, {single(lit, water(19, 30), lamp(13)), no, 0, api.OK}, {single(lit, water(19, 30), weak(18, 18)), no, 0, api.ErrNone}, {single(lit, water(19, 30), weak(17, 24)), no, 0, api.OK}, {single(lit, mark(20)), no, 0, api.ErrNone}, {single(lit, mark(21)), no, 0, api.OK}, {single(lit, mark(0), water(10, 10)), no, 0, api.ErrNone}, {single(lit, drink(1, 0, 2), mark(10)), no, 0, api.ErrNone}, {single(lit, drink(1, 0, 2), mark(11)), no, 0, api.OK}, {single(part(1, 10, true, 0), mark(21)), no, 0, api.OK},
		// also if nothing is drunk, and if there is too little current always
		{single(lit, drink(1, 0, 0), water(9, 9)), no, 0, api.OK}, {single(lit, drink(1, 0, 0), water(10, 10)), no, 0, api.ErrNone}, {single(lit, lamp(20)), no, 0, api.ErrNone}, {single(lit, lamp(21)), no, 0, api.OK}, {single(lit, lamp(24)), no, 0, api.OK}, {single(lit, lamp(25)), no, 0, api.OK}, {single(idle, lamp(60)), no, 0, api.ErrNone}, {single(lit, lamp(21), mark(40)), no, 0, api.OK}, {single(lit, lamp(0), mark(40)), no, 0, api.ErrNone}, {single(lit, lamp(0), full(0, 0), weak(0, 0)), no, 0, api.ErrNone}, {single(lit, lamp(1), full(0, 5), weak(0, 0)), no, 0, api.OK},
		// a part without light between two with it; water that is low before a walk
		{example(parts(lit, idle, lit), bunker(99), coal(99, 99), water(22, 22)), plan(0, 0, 0, 0, 0, 2), 0, api.ErrNone}, {example(parts(lit, idle, lit), bunker(99), coal(99, 99), water(22, 22)), plan(0, 0, 0, 0, 0, 1), 2, api.OK}, {example(parts(lit, idle, lit), bunker(99), coal(99, 99), water(22, 22)), plan(0, 0, 0, 1, 0, 1), 0, api.ErrNone},
	} {
		if n, e := engine.Fails(x.b, x.plan); n != x.want || e != x.e {
			t.Errorf("Fails %d: %d, %d", i, n, e)
		}
	}
}

// P4.4, P4.5 and P4.7: plans with the fewest walks, for how many parts there is one, and the least coal.
func TestPlan(t *testing.T) {
	idle := func(minutes, walks int) api.EnginePart { return part(minutes, minutes, false, walks) }
	lit := func(minutes, walks int) api.EnginePart { return part(minutes, minutes, true, walks) }
	late := example(parts(idle(15, 5), idle(15, 5), idle(15, 5)), coal(20, 20), tank(99), water(99, 99))
	// coal and water must both come before the second part, one of them before the first one: there is little room then for one of them
	wet := example(parts(idle(10, 1), idle(10, 1), idle(5, 1)), coal(15, 15), scoop(12), water(19, 19), tank(20), mark(0))
	heaped := example(parts(idle(10, 1), idle(10, 1), idle(5, 1)), coal(19, 19), scoop(10), bunker(20), water(15, 15), pail(12), mark(0))
	for i, x := range []struct {
		b     api.EngineBook
		want  []api.EngineWalks
		parts int
		coal  int
		e     api.Errno
	}{
		// the examples; with the lamp of 21 no coal helps
		{example(), enough(), 4, 18, api.OK}, {example(lamp(21)), nil, 1, 0, api.ErrNone}, {example(lamp(20)), enough(), 4, 18, api.OK},
		// no walks are needed, or can be, or as many as there can be
		{single(idle(20, 5)), plan(0, 0), 1, 0, api.OK}, {single(idle(20, 0)), plan(0, 0), 1, 20, api.OK}, {single(idle(21, 0)), nil, 0, 21, api.OK}, {single(idle(60, 5)), nil, 0, 0, api.ErrNone}, {single(idle(40, 5), water(40, 40)), plan(4, 0), 1, 10, api.OK}, {single(idle(40, 5)), plan(4, 1), 1, 16, api.OK}, {single(idle(40, 4)), nil, 0, 22, api.OK}, {single(idle(41, 5), water(40, 40)), nil, 0, 0, api.ErrNone}, {single(idle(40, 0), water(40, 40), coal(0, 0)), nil, 0, 40, api.OK},
		// coal comes late, if it can: fewer walks before the first part
		{late, plan(0, 0, 2, 0, 3, 0), 3, 0, api.OK}, {with(late, walks(2, 0)), plan(0, 0, 5, 0, 0, 0), 3, 0, api.OK}, {with(late, walks(1, 0)), plan(2, 0, 0, 0, 3, 0), 3, 0, api.OK}, {with(late, walks(1, 0), walks(2, 2)), plan(3, 0, 0, 0, 2, 0), 3, 3, api.OK}, {with(late, walks(1, 0), walks(2, 1)), plan(4, 0, 0, 0, 1, 0), 3, 9, api.OK}, {with(late, walks(1, 0), walks(2, 0)), nil, 2, 0, api.ErrNone},
		// of as many walks those with fewer for coal first: which of coal and water must come before the first part, or neither
		{example(parts(idle(20, 1), idle(20, 1)), water(30, 30), bunker(26), coal(20, 20), scoop(20), tank(40)), plan(0, 1, 1, 0), 2, 20, api.OK}, {example(parts(idle(20, 2), idle(20, 1)), scoop(20)), plan(0, 1, 1, 0), 2, 0, api.OK}, {example(parts(idle(20, 2), idle(20, 2)), scoop(20)), plan(0, 0, 1, 1), 2, 0, api.OK}, {example(parts(idle(20, 2), idle(20, 1)), scoop(20), tank(30)), plan(1, 0, 0, 1), 2, 0, api.OK}, {example(parts(idle(20, 1), idle(20, 1)), scoop(20), tank(30)), plan(1, 0, 0, 1), 2, 20, api.OK},
		// what has no room is left: walks before a full bunker, or a full tank, are none
		{example(bunker(24), coal(24, 24)), plan(0, 0, 1, 0, 1, 0, 3, 1), 4, 18, api.OK}, {example(bunker(23), coal(23, 23)), nil, 1, 0, api.ErrNone}, {single(lit(10, 5), bunker(19), coal(19, 19)), nil, 0, 0, api.ErrNone}, {single(lit(10, 5), bunker(20), coal(0, 0)), plan(4, 0), 1, 0, api.OK}, {single(lit(10, 5), coal(40, 40), tank(19), water(19, 19)), nil, 0, 0, api.ErrNone}, {single(lit(10, 5), coal(40, 40), tank(20), water(19, 19)), plan(0, 1), 1, 0, api.OK}, {single(lit(10, 5), coal(40, 40), tank(20), water(0, 19)), plan(0, 2), 1, 2, api.OK},
		// coal that is not known is as much as there is at the least
		{single(idle(20, 0), coal(19, 40)), nil, 0, 20, api.OK}, {single(idle(20, 1), coal(19, 40)), plan(1, 0), 1, 14, api.OK}, {single(idle(20, 1), coal(20, 40)), plan(0, 0), 1, 14, api.OK},
		{wet, plan(1, 0, 0, 1, 0, 0), 3, 8, api.OK}, {with(wet, parts(idle(10, 1), idle(9, 1), idle(1, 0), idle(5, 1))), plan(1, 0, 0, 1, 0, 0, 0, 0), 4, 8, api.OK}, {with(wet, walks(0, 0)), nil, 1, 20, api.OK},
		{heaped, plan(0, 1, 1, 0, 0, 0), 3, 10, api.OK}, {with(heaped, parts(idle(10, 1), idle(9, 1), idle(1, 0), idle(5, 1))), plan(0, 1, 1, 0, 0, 0, 0, 0), 4, 10, api.OK}, {with(heaped, walks(2, 0)), plan(0, 1, 1, 0, 0, 0), 3, 15, api.OK}, {with(wet, walks(2, 0)), plan(1, 0, 0, 1, 0, 0), 3, 13, api.OK},
		// a part in the middle for which no plan is enough
		{example(walks(1, 1)), nil, 1, 24, api.OK}, {example(walks(2, 0)), nil, 2, 22, api.OK}, {example(walks(3, 2)), nil, 3, 26, api.OK}, {example(parts(lit(1, 0), lit(1, 0), lit(60, 0), lit(1, 0)), drink(1, 0, 0)), nil, 2, 0, api.ErrNone}, {example(parts(idle(1, 0), lit(1, 0), idle(1, 0)), lamp(60)), nil, 1, 0, api.ErrNone}, {example(parts(lit(1, 0)), lamp(60)), nil, 0, 0, api.ErrNone},
		// all five parts
		{example(parts(idle(1, 0), lit(1, 0), idle(1, 0), lit(1, 0), idle(1, 0))), plan(0, 0, 0, 0, 0, 0, 0, 0, 0, 0), 5, 7, api.OK},
		// no coal is burnt
		{example(burn(0, 0, 0), burn(1, 0, 0)), plan(0, 0, 0, 0, 0, 0, 0, 1), 4, 0, api.OK},
	} {
		want := x.e
		l, e := engine.Plan(x.b)
		if x.want == nil {
			want = api.ErrNone
		} else {
			want = api.OK
		}
		if !slices.Equal(l, x.want) || e != want {
			t.Errorf("Plan %d: %v, %d", i, l, e)
		}
		if n, e := engine.Parts(x.b); n != x.parts || e != api.OK {
			t.Errorf("Parts %d: %d, %d", i, n, e)
		}
		if n, e := engine.Coal(x.b); n != x.coal || e != x.e {
			t.Errorf("Coal %d: %d, %d", i, n, e)
		}
	}
}

// P4.6: by how many minutes a part can be longer, and the order of the errors.
func TestLonger(t *testing.T) {
	for i, x := range []struct {
		b       api.EngineBook
		part, n int
		e       api.Errno
	}{
		// the examples
		{example(), 0, 2, api.OK}, {example(), 1, 1, api.OK}, {example(), 2, 4, api.OK}, {example(), 3, 3, api.OK},
		// by none, by as many as there is coal for, or water, or light
		{single(part(20, 20, false, 0)), 0, 0, api.OK}, {single(part(19, 19, false, 0)), 0, 1, api.OK}, {single(part(1, 19, false, 1)), 0, 7, api.OK}, {single(part(1, 19, false, 5)), 0, 21, api.OK}, {single(part(1, 19, false, 4)), 0, 19, api.OK}, {single(part(1, 2, false, 0), coal(40, 40)), 0, 28, api.OK}, {single(part(1, 2, true, 0), bunker(99), coal(99, 99)), 0, 18, api.OK}, {single(part(1, 2, true, 0), bunker(99), coal(99, 99), lamp(12)), 0, 28, api.OK},
		// as long as can be asked for, also beyond 60 minutes
		{example(burn(0, 0, 0), burn(1, 0, 0), drink(0, 0, 0), drink(1, 0, 0)), 1, 60, api.OK}, {single(part(60, 60, false, 0), burn(0, 0, 0), drink(0, 0, 0)), 0, 60, api.OK}, {single(part(1, 60, false, 0), bunker(99), coal(99, 99), drink(0, 0, 0)), 0, 39, api.OK}, {single(part(38, 39, false, 0), bunker(99), coal(99, 99), drink(0, 0, 0)), 0, 60, api.OK}, {single(part(40, 40, false, 0), bunker(99), coal(99, 99), drink(0, 0, 0)), 0, 59, api.OK},
		// no part is one
		{example(), 4, 0, api.ErrEngineAsk}, {example(), -1, 0, api.ErrEngineAsk}, {example(), math.MaxInt, 0, api.ErrEngineAsk}, {example(), math.MinInt, 0, api.ErrEngineAsk}, {example(lamp(21)), 4, 0, api.ErrEngineAsk}, {example(lamp(21)), -1, 0, api.ErrEngineAsk}, {single(part(20, 20, false, 0)), 1, 0, api.ErrEngineAsk}, {example(lamp(61)), 4, 0, api.ErrEngine},
		// no plan is enough, be it for this part or for another one
		{example(lamp(21)), 0, 0, api.ErrNone}, {example(lamp(21)), 3, 0, api.ErrNone}, {single(part(21, 21, false, 0)), 0, 0, api.ErrNone}, {example(walks(3, 2)), 0, 0, api.ErrNone}, {example(coal(0, 24)), 3, 0, api.ErrNone},
	} {
		if n, e := engine.Longer(x.b, x.part); n != x.n || e != x.e {
			t.Errorf("Longer %d: %d, %d", i, n, e)
		}
	}
}

// P4.8: arguments are only read, what lies behind a list among them.
func TestArgumentsAreRead(t *testing.T) {
	behind := part(77, 78, true, 79)
	for _, b := range []api.EngineBook{example(), example(lamp(21)), example(walks(3, 2)), example(coal(24, 24))} {
		b.Parts = append(b.Parts, behind)[:4]
		l := append(enough(), plan(77, 78)...)[:4]
		old, oldPlan := slices.Clone(b.Parts[:5]), slices.Clone(l[:5])
		for _, c := range calls() {
			for n := range 5 {
				c.ask(b, l, n)
			}
			engine.Check(b)
			if !slices.Equal(b.Parts[:5], old) || !slices.Equal(l[:5], oldPlan) {
				t.Errorf("%s changes its arguments: %v, %v", c.name, b.Parts[:5], l[:5])
			}
		}
	}
}

// P4.8: a result keeps what it is if an argument or another result is changed.
func TestResultsAreNew(t *testing.T) {
	b := example()
	one, e := engine.Plan(b)
	right(t, "Plan", e)
	clear(b.Parts)
	if !slices.Equal(one, enough()) {
		t.Errorf("a result shares memory with an argument: %v", one)
	}
	two, _ := engine.Plan(example())
	clear(one[:cap(one)])
	again, _ := engine.Plan(example())
	if !slices.Equal(two, enough()) || !slices.Equal(again, enough()) {
		t.Errorf("Plan after a change of an earlier result: %v, %v", two, again)
	}
}

// right ends the test if there is an error.
func right(t *testing.T, name string, e api.Errno) {
	t.Helper()
	if e != api.OK {
		t.Fatalf("%s: %d", name, e)
	}
}

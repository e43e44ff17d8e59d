package pitch_test

import (
	"fmt"
	"math"
	"math/rand/v2"
	"slices"
	"testing"

	"bioscope/api"
	"bioscope/pitch"
)

func thing(wide, deep, rope int, turn, way bool) api.PitchThing {
	return api.PitchThing{Wide: wide, Deep: deep, Rope: rope, Turn: turn, Way: way}
}

// box is a thing of which nothing is asked.
func box(wide, deep int) api.PitchThing { return thing(wide, deep, 0, false, false) }

// needy is a thing that needs a way.
func needy(wide, deep int) api.PitchThing { return thing(wide, deep, 0, false, true) }

func at(x, y int) api.PitchPlace { return api.PitchPlace{X: x, Y: y} }

func turned(x, y int) api.PitchPlace { return api.PitchPlace{X: x, Y: y, Turned: true} }

func places(l ...api.PitchPlace) []api.PitchPlace { return l }

// example is the ground of the chapter's examples, with some changes.
func example(changes ...func(g *api.PitchGround)) api.PitchGround {
	g := api.PitchGround{
		Wide: 6, Deep: 4, Trees: []int{0, 32, 0, 0}, Rent: 50,
		Things: []api.PitchThing{thing(3, 2, 1, true, true), thing(1, 1, 0, false, true), thing(2, 1, 0, true, false)},
		Fire:   [][]int{{0, 0, 2}, {0, 0, 0}, {2, 0, 0}},
	}
	for _, change := range changes {
		change(&g)
	}
	return g
}

// stood is a pitch of the example.
func stood() []api.PitchPlace { return places(turned(0, 0), at(3, 0), turned(4, 2)) }

// fire changes how far two things must be apart.
func fire(one, other, far int) func(g *api.PitchGround) {
	return func(g *api.PitchGround) { g.Fire[one][other], g.Fire[other][one] = far, far }
}

func trees(rows ...int) func(g *api.PitchGround) {
	return func(g *api.PitchGround) { g.Trees = rows }
}

func rent(n int) func(g *api.PitchGround) {
	return func(g *api.PitchGround) { g.Rent = n }
}

func thingOf(i int, x api.PitchThing) func(g *api.PitchGround) {
	return func(g *api.PitchGround) { g.Things[i] = x }
}

// bare is a ground without trees and fire rules.
func bare(wide, deep int, things ...api.PitchThing) api.PitchGround {
	g := api.PitchGround{Wide: wide, Deep: deep, Trees: make([]int, deep), Things: things, Rent: 1}
	for range things {
		g.Fire = append(g.Fire, make([]int, len(things)))
	}
	return g
}

// with is a copy of a ground after some changes.
func with(g api.PitchGround, changes ...func(g *api.PitchGround)) api.PitchGround {
	g = copyOf(g)
	for _, change := range changes {
		change(&g)
	}
	return g
}

// copyOf is a ground that shares no memory with g.
func copyOf(g api.PitchGround) api.PitchGround {
	g.Trees, g.Things, g.Fire = slices.Clone(g.Trees), slices.Clone(g.Things), slices.Clone(g.Fire)
	for i, row := range g.Fire {
		g.Fire[i] = slices.Clone(row)
	}
	return g
}

// only is a ground with some of its things alone.
func only(g api.PitchGround, list []int) api.PitchGround {
	some := g
	some.Things, some.Fire = nil, nil
	for _, i := range list {
		some.Things = append(some.Things, g.Things[i])
		var row []int
		for _, k := range list {
			row = append(row, g.Fire[i][k])
		}
		some.Fire = append(some.Fire, row)
	}
	return some
}

// wrongGrounds are grounds that are not valid, each for a reason of its own.
func wrongGrounds() map[string]api.PitchGround {
	change := map[string]func(g *api.PitchGround){
		"nothing":               func(g *api.PitchGround) { *g = api.PitchGround{} },
		"no columns":            func(g *api.PitchGround) { g.Wide, g.Trees = 0, make([]int, 4) },
		"fewer columns than 0":  func(g *api.PitchGround) { g.Wide, g.Trees = -1, make([]int, 4) },
		"seven columns":         func(g *api.PitchGround) { g.Wide = 7 },
		"the most columns":      func(g *api.PitchGround) { g.Wide = math.MaxInt },
		"the least columns":     func(g *api.PitchGround) { g.Wide = math.MinInt },
		"no rows":               func(g *api.PitchGround) { g.Deep, g.Trees = 0, nil },
		"fewer rows than 0":     func(g *api.PitchGround) { g.Deep, g.Trees = -1, nil },
		"six rows":              func(g *api.PitchGround) { g.Deep, g.Trees = 6, make([]int, 6) },
		"the most rows":         func(g *api.PitchGround) { g.Deep = math.MaxInt },
		"no trees":              trees(),
		"a row of trees less":   trees(0, 32, 0),
		"a row of trees more":   trees(0, 32, 0, 0, 0),
		"a tree beside it":      trees(0, 0, 0, 64),
		"a tree beside five":    func(g *api.PitchGround) { g.Wide = 5 },
		"trees below 0":         trees(-1, 0, 0, 0),
		"trees far below 0":     trees(0, 0, 0, math.MinInt),
		"no things":             func(g *api.PitchGround) { g.Things, g.Fire = nil, nil },
		"five things":           func(g *api.PitchGround) { *g = bare(6, 5, box(1, 1), box(1, 1), box(1, 1), box(1, 1), box(1, 1)) },
		"a thing of no width":   thingOf(0, thing(0, 1, 0, false, false)),
		"a thing below a width": thingOf(1, thing(-1, 1, 0, false, false)),
		"a thing too wide":      thingOf(2, thing(7, 1, 0, false, false)),
		"a thing of no depth":   thingOf(0, thing(1, 0, 0, false, false)),
		"a thing below a depth": thingOf(1, thing(1, -1, 0, false, false)),
		"a thing too deep":      thingOf(2, thing(1, 6, 0, true, false)),
		"a Rope below 0":        thingOf(0, thing(1, 1, -1, false, false)),
		"a Rope too long":       thingOf(2, thing(1, 1, 4, false, false)),
		"no Fire":               func(g *api.PitchGround) { g.Fire = nil },
		"a row of Fire less":    func(g *api.PitchGround) { g.Fire = g.Fire[:2] },
		"a row of Fire more":    func(g *api.PitchGround) { g.Fire = append(g.Fire, []int{0, 0, 0}) },
		"a short row of Fire":   func(g *api.PitchGround) { g.Fire[2] = []int{2, 0} },
		"an empty row of Fire":  func(g *api.PitchGround) { g.Fire[1] = nil },
		"a long row of Fire":    func(g *api.PitchGround) { g.Fire[0] = []int{0, 0, 2, 0} },
		"Fire one way":          func(g *api.PitchGround) { g.Fire[0][1] = 1 },
		"Fire the other way":    func(g *api.PitchGround) { g.Fire[2][1] = 1 },
		"other Fire back":       func(g *api.PitchGround) { g.Fire[0][2] = 3 },
		"Fire above 6":          fire(0, 1, 7),
		"Fire below 0":          fire(1, 2, -1),
		"own Fire above 6":      fire(2, 2, 7),
		"own Fire below 0":      fire(0, 0, -1),
		"Rent below 0":          rent(-1),
		"Rent above 1000":       rent(1001),
		"the most Rent":         rent(math.MaxInt),
	}
	grounds := map[string]api.PitchGround{}
	for name, c := range change {
		grounds[name] = example(c)
	}
	return grounds
}

// someGround is a valid ground of at most so many columns, rows and things. Its things are small, so that many have a pitch.
func someGround(r *rand.Rand, wide, deep, things int) api.PitchGround {
	g := api.PitchGround{Wide: 1 + r.IntN(wide), Deep: 1 + r.IntN(deep), Rent: r.IntN(1001)}
	for range g.Deep {
		g.Trees = append(g.Trees, r.IntN(1<<g.Wide)&r.IntN(1<<g.Wide)&r.IntN(1<<g.Wide))
	}
	many := 1 + r.IntN(things)
	strict := r.IntN(3)
	for range many {
		x := thing(1+r.IntN(1+r.IntN(3)), 1+r.IntN(1+r.IntN(3)), 0, r.IntN(2) == 0, r.IntN(3) > 0)
		if strict > 0 && r.IntN(3) == 0 {
			x.Rope = r.IntN(4)
		}
		g.Things = append(g.Things, x)
		g.Fire = append(g.Fire, make([]int, many))
	}
	for i := range many {
		for k := range i + 1 {
			if strict > 1 && r.IntN(2) == 0 {
				fire(i, k, r.IntN(1+r.IntN(7)))(&g)
			}
		}
	}
	return g
}

// call is one of the functions, asked with as much of a ground, places and numbers of things as it takes.
type call struct {
	name string
	ask  func(g api.PitchGround, l []api.PitchPlace, one, other int) (string, api.Errno)
	zero string
}

// first is the place at a number, or any other one.
func first(l []api.PitchPlace, i int) api.PitchPlace {
	if i >= 0 && i < len(l) {
		return l[i]
	}
	return at(0, 0)
}

// calls are all functions. Their results are texts, in which a nil list is like an empty one.
func calls() []call {
	text := func(x any, e api.Errno) (string, api.Errno) { return fmt.Sprint(x), e }
	return []call{
		{"Check", func(g api.PitchGround, _ []api.PitchPlace, _, _ int) (string, api.Errno) {
			return text("", pitch.Check(g))
		}, ""},
		{"IsPlace", func(g api.PitchGround, l []api.PitchPlace, i, _ int) (string, api.Errno) {
			return text(pitch.IsPlace(g, i, first(l, i)))
		}, "false"},
		{"Gap", func(g api.PitchGround, l []api.PitchPlace, i, k int) (string, api.Errno) {
			return text(pitch.Gap(g, i, first(l, i), k, first(l, k)))
		}, "0"},
		{"Way", func(g api.PitchGround, l []api.PitchPlace, i, _ int) (string, api.Errno) {
			return text(pitch.Way(g, l, i))
		}, "0"},
		{"IsPitch", func(g api.PitchGround, l []api.PitchPlace, _, _ int) (string, api.Errno) {
			return text(pitch.IsPitch(g, l))
		}, "false"},
		{"Pitch", func(g api.PitchGround, _ []api.PitchPlace, _, _ int) (string, api.Errno) {
			l, e := pitch.Pitch(g)
			if e != api.OK {
				return text(l, e)
			}
			return text(columnsOf(g, l), e) // any pitch of so many columns will do
		}, "[]"},
		{"Cost", func(g api.PitchGround, _ []api.PitchPlace, _, _ int) (string, api.Errno) { return text(pitch.Cost(g)) }, "0"},
		{"Spots", func(g api.PitchGround, l []api.PitchPlace, i, _ int) (string, api.Errno) {
			return text(pitch.Spots(g, l, i))
		}, "[]"},
		{"Most", func(g api.PitchGround, _ []api.PitchPlace, _, _ int) (string, api.Errno) { return text(pitch.Most(g)) }, "[]"},
	}
}

// right ends the test if a call that must have no error has one.
func right(t *testing.T, name string, e api.Errno) {
	t.Helper()
	if e != api.OK {
		t.Fatalf("%s: error %d", name, e)
	}
}

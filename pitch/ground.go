package pitch

import (
	"iter"

	"bioscope/api"
)

// groundBounds is between what Wide, Deep, how many Things there are, and Rent of a ground lie.
var groundBounds = [...]api.Span{
	{Low: 1, High: api.PitchWide},
	{Low: 1, High: api.PitchDeep},
	{Low: 1, High: api.PitchThings},
	{Low: 0, High: api.PitchRent},
}

// thingBounds is between what Wide, Deep and Rope of a thing lie.
var thingBounds = [...]api.Span{
	{Low: 1, High: api.PitchWide},
	{Low: 1, High: api.PitchDeep},
	{Low: 0, High: api.PitchRope},
}

// ground is a valid ground, with the cells on which trees stand, and all things in all places that are theirs.
type ground struct {
	api.PitchGround
	trees  cells
	bodies map[stand]body
}

// know returns a ground for the calculation, if it is valid.
func know(g api.PitchGround) (ground, api.Errno) {
	if e := Check(g); e != api.OK {
		return ground{}, e
	}
	k := ground{PitchGround: g, bodies: map[stand]body{}}
	copy(k.trees[:], g.Trees)
	for thing := range len(g.Things) {
		for p := range k.places() {
			s := stand{thing, p}
			if b, can := k.put(s); can {
				k.bodies[s] = b
			}
		}
	}
	return k, api.OK
}

func isGround(g api.PitchGround) bool {
	for i, n := range [...]int{g.Wide, g.Deep, len(g.Things), g.Rent} {
		if !isWithin(n, groundBounds[i]) {
			return false
		}
	}
	for _, t := range g.Things {
		if !isThing(t) {
			return false
		}
	}
	return areTrees(g) && isFire(g.Fire, len(g.Things))
}

func isThing(t api.PitchThing) bool {
	for i, n := range [...]int{t.Wide, t.Deep, t.Rope} {
		if !isWithin(n, thingBounds[i]) {
			return false
		}
	}
	return true
}

func areTrees(g api.PitchGround) bool {
	if len(g.Trees) != g.Deep {
		return false
	}
	for _, row := range g.Trees {
		if row < 0 || row >= 1<<g.Wide {
			return false
		}
	}
	return true
}

// isFire reports whether a list of rows tells for so many things how far each two must be apart.
func isFire(fire [][]int, things int) bool {
	if len(fire) != things {
		return false
	}
	for _, row := range fire {
		if len(row) != things {
			return false
		}
	}
	for i, row := range fire {
		for j, n := range row {
			if !isWithin(n, api.Span{Low: 0, High: api.PitchFire}) || n != fire[j][i] {
				return false
			}
		}
	}
	return true
}

func isWithin(n int, within api.Span) bool { return within.Low <= n && n <= within.High }

func (g ground) hasThing(thing int) bool { return thing >= 0 && thing < len(g.Things) }

// places produces all places that begin on the ground: by column, then by row, then those that are not turned first.
func (g ground) places() iter.Seq[api.PitchPlace] {
	return func(yield func(api.PitchPlace) bool) {
		for x := range g.Wide {
			for y := range g.Deep {
				if !yield(api.PitchPlace{X: x, Y: y}) {
					return
				}
				if !yield(api.PitchPlace{X: x, Y: y, Turned: true}) {
					return
				}
			}
		}
	}
}

package pitch

import (
	"cmp"
	"iter"
	"slices"

	"bioscope/api"
)

// stand is a thing in a place.
type stand struct {
	thing int
	place api.PitchPlace
}

// body is a thing in a place that is its own, with what it covers there.
type body struct {
	stand
	area
	cells cells
}

// area is some columns and some rows.
type area struct{ x, y, wide, deep int }

func (a area) has(x, y int) bool {
	return a.x <= x && x < a.x+a.wide && a.y <= y && y < a.y+a.deep
}

// across returns how many columns lie between two areas.
func (a area) across(b area) int { return greatest(0, b.x-a.x-a.wide, a.x-b.x-b.wide) }

// inDepth returns how many rows lie between two areas.
func (a area) inDepth(b area) int { return greatest(0, b.y-a.y-a.deep, a.y-b.y-b.deep) }

func greatest[T cmp.Ordered](first T, others ...T) T {
	for _, n := range others {
		first = max(first, n)
	}
	return first
}

// areClear reports whether two things cover no cell in common.
func areClear(a, b body) bool { return a.cells.common(b.cells).none() }

// gap returns how far two things are apart that cover no cell in common.
func gap(a, b body) int {
	between := [...]func(area, area) int{area.across, area.inDepth}
	most := 0
	for _, far := range between {
		most = greatest(most, far(a.area, b.area))
	}
	return most
}

// areEachTwo reports whether something is so of each two things that stand.
func areEachTwo(all []body, are func(a, b body) bool) bool {
	for _, a := range all {
		for _, b := range all {
			if a.stand != b.stand && !are(a, b) {
				return false
			}
		}
	}
	return true
}

// put returns a thing in a place that begins on the ground, and whether it can stand there.
func (g ground) put(s stand) (b body, can bool) {
	t := g.Things[s.thing]
	a := area{s.place.X, s.place.Y, t.Wide, t.Deep}
	if s.place.Turned {
		a.wide, a.deep = t.Deep, t.Wide
	}
	covers := cellsThat(a.has)
	if s.place.Turned && !t.Turn || a.x+a.wide > g.Wide || a.y+a.deep > g.Deep || !covers.common(g.trees).none() {
		return body{}, false
	}
	return body{s, a, covers}, true
}

// standAll returns all things, one after the other, in places, and whether each place is one of its thing.
func (g ground) standAll(places []api.PitchPlace) (all []body, can bool) {
	for thing, p := range places {
		b, is := g.bodies[stand{thing, p}]
		if !is {
			return nil, false
		}
		all = append(all, b)
	}
	return all, true
}

// bodiesOf produces a thing in all places that are its own: by column, then by row, then those that are not turned first.
func (g ground) bodiesOf(thing int) iter.Seq[body] {
	return func(yield func(body) bool) {
		for p := range g.places() {
			b, is := g.bodies[stand{thing, p}]
			if is && !yield(b) {
				return
			}
		}
	}
}

// asked returns the least gap that two things must have.
func (g ground) asked(one, other int) int {
	return greatest(g.Things[one].Rope+g.Things[other].Rope, g.Fire[one][other])
}

func (g ground) areApart(a, b body) bool {
	return areClear(a, b) && gap(a, b) >= g.asked(a.thing, b.thing)
}

// free returns the cells on which nothing stands, neither a tree nor a thing.
func (g ground) free(all []body) cells {
	taken := g.trees
	for _, b := range all {
		taken = taken.and(b.cells)
	}
	return cellsThat(floor{g.Wide, g.Deep, taken}.isFree)
}

// haveWays reports whether all things that need a way have one.
func (g ground) haveWays(all []body) bool {
	free := g.free(all)
	for _, b := range all {
		if !g.Things[b.thing].Way {
			continue
		}
		if _, some := way(b.cells, free); !some {
			return false
		}
	}
	return true
}

// isPitch reports whether places, as many as there are things, are a pitch.
func (g ground) isPitch(places []api.PitchPlace) bool {
	all, can := g.standAll(places)
	return can && areEachTwo(all, g.areApart) && g.haveWays(all)
}

// spots returns all places of a thing with which places are a pitch, if they are put in at its number.
func (g ground) spots(places []api.PitchPlace, thing int) []api.PitchPlace {
	var spots []api.PitchPlace
	tried := slices.Clone(places)
	for b := range g.bodiesOf(thing) {
		tried[thing] = b.place
		if g.isPitch(tried) {
			spots = append(spots, b.place)
		}
	}
	return spots
}

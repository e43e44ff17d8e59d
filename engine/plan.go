package engine

import (
	"iter"
	"slices"
	"sort"

	"bioscope/api"
)

// mostLonger is by how many minutes a part can be longer at the most.
const mostLonger = 60

// outlook is with how few walks the rest of an evening can do, if it can, and the first of its parts with them.
type outlook struct {
	enough bool
	many   int
	first  step
}

// steps produces the part behind a point with all walks that there can be: the fewest for coal first, then the fewest for water.
func (k evening) steps(p point, at end) iter.Seq[step] {
	return func(yield func(step) bool) {
		walks := k.Parts[p.part].Walks
		for coal := range walks + 1 {
			for water := range walks - coal + 1 {
				if !yield(k.step(p, api.EngineWalks{Coal: coal, Water: water}, at)) {
					return
				}
			}
		}
	}
}

// outlooks returns those from the beginning on, of all points that can be reached by walks that are enough.
// What comes after a point does not depend on the walks before it: each one is looked from only once.
func (k evening) outlooks() map[point]outlook {
	low, _ := ends()
	known := map[point]outlook{}
	var look func(p point) outlook
	look = func(p point) outlook {
		if o, is := known[p]; is {
			return o
		}
		if p.part == len(k.Parts) {
			known[p] = outlook{enough: true}
			return known[p]
		}
		var best outlook
		tried := p
	trying:
		for x := range k.steps(p, low) {
			// Without room for what it brings one walk more is never better.
			if k.mayFail(x) || x.behind == tried {
				continue trying
			}
			tried = x.behind
			rest := look(x.behind)
			many := x.walks.Coal + x.walks.Water + rest.many
			if !rest.enough || best.enough && best.many <= many {
				continue trying
			}
			best = outlook{true, many, x}
		}
		known[p] = best
		return best
	}
	look(k.start(low))
	return known
}

// plan returns the first of the plans that are enough with the fewest walks.
func (k evening) plan() ([]api.EngineWalks, api.Errno) {
	low, _ := ends()
	known := k.outlooks()
	p := k.start(low)
	if !known[p].enough {
		return nil, api.ErrNone
	}
	plan := make([]api.EngineWalks, len(k.Parts))
	for part := range len(plan) {
		plan[part] = known[p].first.walks
		p = known[p].first.behind
	}
	return plan, api.OK
}

// isEnough reports whether some plan is enough.
func (k evening) isEnough() bool {
	low, _ := ends()
	return k.outlooks()[k.start(low)].enough
}

// isEnoughFor reports whether some plan is enough for the first parts, if no others follow.
func (k evening) isEnoughFor(parts int) bool {
	b := k.EngineBook
	b.Parts = b.Parts[:parts:parts]
	return eveningOf(b).isEnough()
}

// isEnoughWith reports whether some plan is enough with just so much coal at first.
func (k evening) isEnoughWith(shovels int) bool {
	b := k.EngineBook
	b.Coal = api.Span{Low: shovels, High: shovels}
	return eveningOf(b).isEnough()
}

// stretch is a part of an evening that is made longer.
type stretch struct {
	evening
	part int
}

// isEnoughBy reports whether some plan is enough if the part can last so many minutes more.
func (s stretch) isEnoughBy(minutes int) bool {
	b := s.EngineBook
	b.Parts = slices.Clone(b.Parts)
	b.Parts[s.part].Minutes.High += minutes
	return eveningOf(b).isEnough()
}

// greatest returns the greatest number up to a limit that is right, if each lesser one is right, too; -1 if none is.
func greatest(limit int, isRight func(int) bool) int {
	return sort.Search(limit+1, func(n int) bool { return !isRight(n) }) - 1
}

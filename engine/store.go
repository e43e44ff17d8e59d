package engine

import (
	"cmp"
	"iter"

	"bioscope/api"
)

// The numbers of what the engine takes.
const (
	ofCoal = iota
	ofWater
)

// stock is how much there is of coal, and of water; the zero value is nothing.
type stock [2]int

// store is where coal or water is kept: what is there at first, what has room, what a walk brings, and what a minute takes (without light, and with it).
type store struct {
	first      api.Span
	room, load int
	takes      [2]api.Span
}

func (k evening) bunker() store { return store{k.Coal, k.Bunker, k.Scoop, k.Burn} }

func (k evening) tank() store { return store{k.Water, k.Tank, k.Pail, k.Drink} }

// minute returns between what lies what a minute of a part takes.
func (s store) minute(p api.EnginePart) api.Span {
	if p.Light {
		return s.takes[api.EngineLit]
	}
	return s.takes[api.EngineIdle]
}

// span is a span that tells its ends.
type span api.Span

func (s span) least() int { return s.Low }

func (s span) most() int { return s.High }

// end is one of the two ends of what is left: has tells that of a span which is there, takes that of a span which is taken away.
type end struct{ has, takes func(span) int }

// ends returns the end of what is left at the least, and that of what is left at the most.
func ends() (low, high end) {
	return end{has: span.least, takes: span.most}, end{has: span.most, takes: span.least}
}

// point is between two parts: which part comes next, and what is left before its walks.
type point struct {
	part int
	left stock
}

// step is a part that walks begin: with what it ends, and what is lacking for it.
type step struct {
	walks  api.EngineWalks
	behind point
	lacks  stock
}

// start returns the point before the first part, at one end.
func (k evening) start(at end) point {
	var p point
	for i, s := range k.stores {
		p.left[i] = at.has(span(s.first))
	}
	return p
}

// step returns the part behind a point, at one end.
func (k evening) step(p point, w api.EngineWalks, at end) step {
	x := step{walks: w, behind: point{part: p.part + 1}}
	part := k.Parts[p.part]
	for i, walks := range [...]int{ofCoal: w.Coal, ofWater: w.Water} {
		s := k.stores[i]
		has := least(s.room, p.left[i]+walks*s.load)
		takes := at.takes(span(part.Minutes)) * at.takes(span(s.minute(part)))
		taken := least(has, takes)
		x.behind.left[i], x.lacks[i] = has-taken, takes-taken
	}
	return x
}

// course produces the parts with their walks, from the first one on, at one end.
func (k evening) course(plan []api.EngineWalks, at end) iter.Seq[step] {
	return func(yield func(step) bool) {
		p := k.start(at)
		for _, w := range plan {
			x := k.step(p, w, at)
			if !yield(x) {
				return
			}
			p = x.behind
		}
	}
}

// mayStand reports whether the engine can stand still in a part that is told at the least.
func (x step) mayStand() bool { return x.lacks != stock{} }

// mayFail reports whether a part can fail that is told at the least.
// There is never less water in it than at its end, nor less current than with the least water: neither end of Weak is greater than that of Full.
func (k evening) mayFail(x step) bool {
	if x.mayStand() {
		return true
	}
	part := k.Parts[x.behind.part-1]
	return part.Light && k.current(x.behind.left[ofWater]).Low < k.Lamp
}

// left returns between what lies what is left of coal and of water behind the parts of a plan, or of its beginning.
func (k evening) left(plan []api.EngineWalks) (coal, water api.Span, e api.Errno) {
	low, high := ends()
	var fewest, most stock
	for x := range k.course(plan, low) {
		if x.mayStand() {
			return api.Span{}, api.Span{}, api.ErrEngineStands
		}
		fewest = x.behind.left
	}
	for x := range k.course(plan, high) {
		most = x.behind.left
	}
	return api.Span{Low: fewest[ofCoal], High: most[ofCoal]}, api.Span{Low: fewest[ofWater], High: most[ofWater]}, api.OK
}

// fails returns the first part that may fail by a plan.
func (k evening) fails(plan []api.EngineWalks) (int, api.Errno) {
	low, _ := ends()
	for x := range k.course(plan, low) {
		if k.mayFail(x) {
			return x.behind.part - 1, api.OK
		}
	}
	return 0, api.ErrNone
}

// least returns the least of some numbers.
func least[N cmp.Ordered](first N, others ...N) N {
	for _, n := range others {
		if n < first {
			first = n
		}
	}
	return first
}

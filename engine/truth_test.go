package engine_test

import (
	"math/rand/v2"
	"slices"
	"testing"

	"bioscope/api"
	"bioscope/engine"
)

// grid tells of how much coal and water there can be: by shovels, then by buckets; it has room for evenings like that of the examples.
type grid [41][41]bool

// each calls visit with all that can be.
func (g *grid) each(b api.EngineBook, visit func(coal, water int)) {
	for c := range b.Bunker + 1 {
		for w := range b.Tank + 1 {
			if g[c][w] {
				visit(c, w)
			}
		}
	}
}

// first is what there can be at first.
func first(b api.EngineBook) *grid {
	var g grid
	for c := b.Coal.Low; c <= b.Coal.High; c++ {
		for w := b.Water.Low; w <= b.Water.High; w++ {
			g[c][w] = true
		}
	}
	return &g
}

// brought is what there is after some walks, shovel by shovel, and bucket by bucket.
func brought(b api.EngineBook, w api.EngineWalks, coal, water int) (int, int) {
	for range w.Coal * b.Scoop {
		if coal < b.Bunker {
			coal++
		}
	}
	for range w.Water * b.Pail {
		if water < b.Tank {
			water++
		}
	}
	return coal, water
}

// kindOf is what a part counts as.
func kindOf(p api.EnginePart) int {
	if p.Light {
		return api.EngineLit
	}
	return api.EngineIdle
}

// isLit tells if there is light with each current that there can be.
func isLit(b api.EngineBook, water int) bool {
	current := b.Full
	if water < b.Mark {
		current = b.Weak
	}
	for n := current.Low; n <= current.High; n++ {
		if n < b.Lamp {
			return false
		}
	}
	return true
}

// fate is what can become of a part: whether the engine stands still, whether the lamp is dark, and what there can be at its end.
type fate struct {
	stands, dark bool
	behind       *grid
}

// fateOf follows a part minute by minute, through all that can happen.
func fateOf(b api.EngineBook, part int, w api.EngineWalks, before *grid) (f fate) {
	p := b.Parts[part]
	f.behind = &grid{}
	var now grid
	before.each(b, func(shovels, buckets int) {
		c, v := brought(b, w, shovels, buckets)
		now[c][v] = true
	})
	burn, drink := b.Burn[kindOf(p)], b.Drink[kindOf(p)]
	for minute := 1; minute <= p.Minutes.High; minute++ {
		var next grid
		now.each(b, func(c, w int) {
			for burnt := burn.Low; burnt <= burn.High; burnt++ {
				for drunk := drink.Low; drunk <= drink.High; drunk++ {
					if burnt > c || drunk > w {
						f.stands = true
						continue
					}
					next[c-burnt][w-drunk] = true
					f.dark = f.dark || p.Light && !isLit(b, w-drunk)
				}
			}
		})
		now = next
		if minute >= p.Minutes.Low {
			now.each(b, func(c, w int) { f.behind[c][w] = true })
		}
	}
	return f
}

// leftOf is between what lies what there can be.
func leftOf(b api.EngineBook, g *grid) (coal, water api.Span) {
	coal, water = span(100, -1), span(100, -1)
	g.each(b, func(c, w int) {
		coal = span(min(coal.Low, c), max(coal.High, c))
		water = span(min(water.Low, w), max(water.High, w))
	})
	return coal, water
}

// walksOf are all walks that there can be before a part, the first ones first.
func walksOf(p api.EnginePart) (l []api.EngineWalks) {
	for c := range p.Walks + 1 {
		for w := range p.Walks - c + 1 {
			l = append(l, api.EngineWalks{Coal: c, Water: w})
		}
	}
	return l
}

// enoughPlans calls visit with all plans that are enough, the first ones first, as long as it asks for more.
func enoughPlans(b api.EngineBook, visit func([]api.EngineWalks) bool) {
	var l []api.EngineWalks
	var walk func(before *grid) bool
	walk = func(before *grid) bool {
		if len(l) == len(b.Parts) {
			return visit(slices.Clone(l))
		}
		for _, w := range walksOf(b.Parts[len(l)]) {
			f := fateOf(b, len(l), w, before)
			if f.stands || f.dark {
				continue
			}
			l = append(l, w)
			goesOn := walk(f.behind)
			l = l[:len(l)-1]
			if !goesOn {
				return false
			}
		}
		return true
	}
	walk(first(b))
}

// isSome tells if some plan is enough.
func isSome(b api.EngineBook) (is bool) {
	enoughPlans(b, func([]api.EngineWalks) bool {
		is = true
		return false
	})
	return is
}

// allWalks are the walks of a plan together.
func allWalks(l []api.EngineWalks) (n int) {
	for _, w := range l {
		n += w.Coal + w.Water
	}
	return n
}

// bestPlan is the first of those with the fewest walks; nil if no plan is enough.
func bestPlan(b api.EngineBook) (best []api.EngineWalks) {
	enoughPlans(b, func(l []api.EngineWalks) bool {
		if best == nil || allWalks(l) < allWalks(best) {
			best = l
		}
		return true
	})
	return best
}

// within is a span in another one.
func within(r *rand.Rand, low, high int) api.Span {
	a, b := low+r.IntN(high-low+1), low+r.IntN(high-low+1)
	return span(min(a, b), max(a, b))
}

// currents sets the current, the mark and the lamp, mostly so that it matters how much water there is.
func currents(r *rand.Rand, b *api.EngineBook) {
	b.Full, b.Weak = span(5, 7), span(r.IntN(6), r.IntN(3)+5)
	b.Mark, b.Lamp = r.IntN(min(b.Tank, 12)+1), r.IntN(6)
	switch r.IntN(6) {
	case 0:
		b.Full = within(r, 2, 7)
		b.Weak = span(r.IntN(b.Full.Low+1), someOf(r, b.Full))
	case 1:
		b.Lamp = 6
	}
}

// someOf is any number of a span.
func someOf(r *rand.Rand, s api.Span) int { return s.Low + r.IntN(s.High-s.Low+1) }

// noParts is an evening without parts, with room and walks of such sizes; the least that there can be at first is no less than a share of the room.
func noParts(r *rand.Rand, room, load api.Span, share, burnt int) api.EngineBook {
	b := api.EngineBook{Bunker: someOf(r, room), Tank: someOf(r, room), Scoop: someOf(r, load), Pail: someOf(r, load)}
	b.Coal, b.Water = within(r, b.Bunker/share, b.Bunker), within(r, b.Tank/share, b.Tank)
	for kind := range b.Burn {
		b.Burn[kind], b.Drink[kind] = within(r, 0, 1+r.IntN(burnt)), within(r, 0, 1+r.IntN(2))
	}
	currents(r, &b)
	return b
}

// small is an evening of which all can be followed that can happen.
func small(r *rand.Rand) api.EngineBook {
	b := noParts(r, span(3, 12), span(1, 5), 3, 2)
	for range 1 + r.IntN(3) {
		l := within(r, 1, 4)
		b.Parts = append(b.Parts, part(l.Low, l.High, r.IntN(2) == 0, r.IntN(4)))
	}
	return b
}

// narrow is a small evening with little room for what a walk brings, and so few walks that some must come early.
func narrow(r *rand.Rand) api.EngineBook {
	b := small(r)
	b.Bunker, b.Tank, b.Scoop, b.Pail, b.Mark = 6+r.IntN(6), 6+r.IntN(6), 3+r.IntN(4), 3+r.IntN(4), 0
	b.Coal, b.Water = within(r, b.Bunker-3, b.Bunker), within(r, b.Tank-3, b.Tank)
	for kind := range b.Burn {
		b.Burn[kind], b.Drink[kind] = span(r.IntN(2), 1), span(r.IntN(2), 1)
	}
	b.Lamp, b.Parts = min(b.Lamp, b.Full.Low), nil
	for range 3 + r.IntN(2) {
		l := within(r, 1, 6)
		b.Parts = append(b.Parts, part(l.Low, l.High, r.IntN(2) == 0, r.IntN(3)))
	}
	return b
}

// large is an evening of any size.
func large(r *rand.Rand) api.EngineBook {
	b := noParts(r, span(30, 99), span(3, 20), 2, 3)
	for range 1 + r.IntN(5) {
		l := within(r, 1, 5+r.IntN(56))
		if r.IntN(3) > 0 {
			l = within(r, 1, 20)
		}
		b.Parts = append(b.Parts, part(l.Low, l.High, r.IntN(2) == 0, r.IntN(6)))
	}
	return b
}

// somePlan is a plan of an evening.
func somePlan(r *rand.Rand, b api.EngineBook) (l []api.EngineWalks) {
	for _, p := range b.Parts {
		all := walksOf(p)
		l = append(l, all[r.IntN(len(all))])
	}
	return l
}

// P4.2 and P4.3 (and P4.10, P4.12): what is left, and what may fail, held against all that can happen.
func TestFates(t *testing.T) {
	r := rand.New(rand.NewPCG(43, 1))
	var stood, dark, enough int
	for range 4000 {
		b := small(r)
		l := somePlan(r, b)
		now, stands, fails := first(b), false, -1
		for i, w := range l {
			f := fateOf(b, i, w, now)
			stands = stands || f.stands
			if fails < 0 && (stands || f.dark) {
				fails = i
			}
			c, v, e := engine.Left(b, l, i)
			if wantCoal, wantWater := leftOf(b, f.behind); !stands && (c != wantCoal || v != wantWater || e != api.OK) {
				t.Fatalf("Left of %d by %v of %v: %v, %v, %d, not %v, %v", i, l, b, c, v, e, wantCoal, wantWater)
			}
			if stands && (c != span(0, 0) || v != span(0, 0) || e != api.ErrEngineStands) {
				t.Fatalf("Left of %d by %v of %v: %v, %v, %d, though the engine can stand still", i, l, b, c, v, e)
			}
			now = f.behind
		}
		n, e := engine.Fails(b, l)
		if fails >= 0 && (n != fails || e != api.OK) || fails < 0 && (n != 0 || e != api.ErrNone) {
			t.Fatalf("Fails by %v of %v: %d, %d, not %d", l, b, n, e, fails)
		}
		switch {
		case stands:
			stood++
		case fails >= 0:
			dark++
		default:
			enough++
		}
	}
	if min(stood, dark, enough) < 150 {
		t.Errorf("of the plans %d stand still, %d are dark, and %d are enough only", stood, dark, enough)
	}
}

// askPlan asks for a plan, and compares it with the best one of all that there are.
func askPlan(t *testing.T, b api.EngineBook) {
	t.Helper()
	best := bestPlan(b)
	l, e := engine.Plan(b)
	if !slices.Equal(l, best) || (e == api.OK) != (best != nil) || e != api.OK && e != api.ErrNone {
		t.Fatalf("Plan of %v: %v, %d, not %v", b, l, e, best)
	}
}

// askOthers asks for how many parts there is a plan, and with how little coal, and compares that with what is true of all plans that there are.
func askOthers(t *testing.T, b api.EngineBook) {
	t.Helper()
	many := 0
	for n := range len(b.Parts) + 1 {
		if n > 0 && isSome(with(b, func(x *api.EngineBook) { x.Parts = x.Parts[:n] })) {
			many = n
		}
	}
	if n, e := engine.Parts(b); n != many || e != api.OK {
		t.Fatalf("Parts of %v: %d, %d, not %d", b, n, e, many)
	}
	least, none := 0, api.ErrNone
	for n := b.Bunker; n >= 0; n-- {
		if isSome(with(b, coal(n, n))) {
			least, none = n, api.OK
		}
	}
	if n, e := engine.Coal(b); n != least || e != none {
		t.Fatalf("Coal of %v: %d, %d, not %d, %d", b, n, e, least, none)
	}
}

// askLonger asks by how much each part can be longer, and compares that with what is true.
func askLonger(t *testing.T, b api.EngineBook) {
	t.Helper()
	for i := range b.Parts {
		most, none := 0, api.ErrNone
		for by := range 61 {
			if isSome(with(b, func(x *api.EngineBook) { x.Parts[i].Minutes.High += by })) {
				most, none = by, api.OK
			}
		}
		if n, e := engine.Longer(b, i); n != most || e != none {
			t.Fatalf("Longer of %d of %v: %d, %d, not %d, %d", i, b, n, e, most, none)
		}
	}
}

// P4.4 to P4.7 (and P4.11): the best plans of all that there are, for how many parts there is one, how much longer each part can be, and the least coal.
func TestPlansOfAll(t *testing.T) {
	askPlan(t, example())
	askOthers(t, example())
	r := rand.New(rand.NewPCG(44, 1))
	var none, walked, idle int
	for i := range 700 {
		b := small(r)
		askPlan(t, b)
		askOthers(t, b)
		if i%6 == 0 {
			askLonger(t, b)
		}
		switch l, e := engine.Plan(b); {
		case e != api.OK:
			none++
		case allWalks(l) > 0:
			walked++
		default:
			idle++
		}
	}
	if min(none, walked, idle) < 60 {
		t.Errorf("for %d there is no plan, %d need walks, and %d need none only", none, walked, idle)
	}
}

// P4.4 (and P4.11): the best plans of all where what is brought too early is left on the ground.
func TestPlansWithLittleRoom(t *testing.T) {
	r := rand.New(rand.NewPCG(51, 1))
	for range 4000 {
		askPlan(t, narrow(r))
	}
}

// The kinds of what is not known of an evening.
const (
	ofCoal = iota
	ofWater
	ofMinutes
	ofBurn
	ofDrink
	ofCurrent
)

// night tells how all that is not known truly is: of each kind always the least, always the greatest, or any number.
type night struct {
	r     *rand.Rand
	moods [6]int
}

func (n night) of(kind int, s api.Span) int {
	switch n.moods[kind] {
	case 0:
		return s.Low
	case 1:
		return s.High
	}
	return someOf(n.r, s)
}

// worst is the night with the least of all that is there, and the most that is taken.
func worst() night { return night{moods: [6]int{0, 0, 1, 1, 1, 0}} }

// mildest is the night with the most of all that is there, and the least that is taken.
func mildest() night { return night{moods: [6]int{1, 1, 0, 0, 0, 1}} }

func someNight(r *rand.Rand) night {
	n := night{r: r}
	for i := range n.moods {
		n.moods[i] = r.IntN(3)
	}
	return n
}

// happened is what truly became of a part.
type happened struct {
	stood, dark bool
	coal, water int
}

// happen is what becomes of the parts of an evening in a night, as long as the engine does not stand still.
func happen(b api.EngineBook, l []api.EngineWalks, n night) (all []happened) {
	h := happened{coal: n.of(ofCoal, b.Coal), water: n.of(ofWater, b.Water)}
	for i, p := range b.Parts {
		h.coal, h.water = brought(b, l[i], h.coal, h.water)
		h.dark = false
		for range n.of(ofMinutes, p.Minutes) {
			burnt, drunk := n.of(ofBurn, b.Burn[kindOf(p)]), n.of(ofDrink, b.Drink[kindOf(p)])
			if burnt > h.coal || drunk > h.water {
				h.stood = true
				return append(all, h)
			}
			h.coal, h.water = h.coal-burnt, h.water-drunk
			current := b.Full
			if h.water < b.Mark {
				current = b.Weak
			}
			h.dark = h.dark || p.Light && n.of(ofCurrent, current) < b.Lamp
		}
		all = append(all, h)
	}
	return all
}

// failed is the first part that failed; -1 if none did.
func failed(all []happened) int {
	return slices.IndexFunc(all, func(h happened) bool { return h.stood || h.dark })
}

// P4.9: whatever truly happens, with a plan that is enough the engine never stands still, and there always is light.
func TestLightToTheLastPicture(t *testing.T) {
	r := rand.New(rand.NewPCG(45, 1))
	told := 0
	for range 3000 {
		b := large(r)
		l, e := engine.Plan(b)
		if e != api.OK {
			continue
		}
		told++
		if n, e := engine.Fails(b, l); n != 0 || e != api.ErrNone {
			t.Fatalf("Fails by the plan %v of %v: %d, %d", l, b, n, e)
		}
		nights := []night{worst(), mildest()}
		for range 20 {
			nights = append(nights, someNight(r))
		}
		for _, n := range nights {
			if all := happen(b, l, n); failed(all) >= 0 || len(all) != len(b.Parts) {
				t.Fatalf("by %v of %v: %v", l, b, all)
			}
		}
	}
	if told < 400 {
		t.Errorf("for %d evenings there is a plan only", told)
	}
}

// P4.10: what is left truly lies within what is told, and each end can be so.
func TestLeftWithin(t *testing.T) {
	r := rand.New(rand.NewPCG(46, 1))
	told, stood := 0, 0
	for range 2500 {
		b := large(r)
		l := somePlan(r, b)
		low, high := happen(b, l, worst()), happen(b, l, mildest())
		var all [][]happened
		for range 10 {
			all = append(all, happen(b, l, someNight(r)))
		}
		for i := range l {
			c, w, e := engine.Left(b, l, i)
			if i >= len(low) || low[i].stood {
				stood++
				if e != api.ErrEngineStands {
					t.Fatalf("Left of %d by %v of %v: %d, though the engine stands still", i, l, b, e)
				}
				continue
			}
			told++
			if c != span(low[i].coal, high[i].coal) || w != span(low[i].water, high[i].water) || e != api.OK {
				t.Fatalf("Left of %d by %v of %v: %v, %v, %d, not between %v and %v", i, l, b, c, w, e, low[i], high[i])
			}
			for _, x := range all {
				if x[i].coal < c.Low || x[i].coal > c.High || x[i].water < w.Low || x[i].water > w.High {
					t.Fatalf("Left of %d by %v of %v: %v, %v, and truly %v", i, l, b, c, w, x[i])
				}
			}
		}
	}
	if min(told, stood) < 500 {
		t.Errorf("%d parts leave something, and in %d the engine stands still only", told, stood)
	}
}

// without is a plan with one walk less; nil if there is none there.
func without(l []api.EngineWalks, part int, isCoal bool) []api.EngineWalks {
	l = slices.Clone(l)
	walks := &l[part].Water
	if isCoal {
		walks = &l[part].Coal
	}
	if *walks == 0 {
		return nil
	}
	*walks--
	return l
}

// P4.11: no plan that is enough has fewer walks than the one that is told.
func TestFewestWalks(t *testing.T) {
	r := rand.New(rand.NewPCG(47, 1))
	others, fewer := 0, 0
	for range 1500 {
		b := large(r)
		best, none := engine.Plan(b)
		for range 30 {
			l := somePlan(r, b)
			if _, e := engine.Fails(b, l); e != api.ErrNone {
				continue
			}
			others++
			if none != api.OK || allWalks(l) < allWalks(best) || allWalks(l) == allWalks(best) && isBefore(l, best) {
				t.Fatalf("Plan of %v: %v, %d, not %v", b, best, none, l)
			}
		}
		for i := range best {
			for _, isCoal := range []bool{false, true} {
				l := without(best, i, isCoal)
				if l == nil {
					continue
				}
				fewer++
				if _, e := engine.Fails(b, l); e != api.OK {
					t.Fatalf("Fails by %v of %v: %d, though %v is told", l, b, e, best)
				}
			}
		}
	}
	if min(others, fewer) < 300 {
		t.Errorf("%d other plans, and %d with fewer walks were tried only", others, fewer)
	}
}

// isBefore tells if a plan comes before another one.
func isBefore(one, other []api.EngineWalks) bool {
	return slices.CompareFunc(one, other, func(x, y api.EngineWalks) int {
		if x.Coal != y.Coal {
			return x.Coal - y.Coal
		}
		return x.Water - y.Water
	}) < 0
}

// P4.12: the part that may fail does fail in something that can happen; those before it do not.
func TestPartThatFails(t *testing.T) {
	r := rand.New(rand.NewPCG(48, 1))
	fail, later := 0, 0
	for range 3000 {
		b := large(r)
		l := somePlan(r, b)
		told, e := engine.Fails(b, l)
		if e == api.ErrNone {
			continue
		}
		right(t, "Fails", e)
		fail++
		if n := failed(happen(b, l, worst())); n != told {
			t.Fatalf("Fails by %v of %v: %d, not %d", l, b, told, n)
		}
		for range 10 {
			n := failed(happen(b, l, someNight(r)))
			if n >= 0 && n < told {
				t.Fatalf("Fails by %v of %v: %d, and truly %d", l, b, told, n)
			}
			if n > told {
				later++
			}
		}
	}
	if min(fail, later) < 500 {
		t.Errorf("%d plans fail, and %d later than told only", fail, later)
	}
}

// raise makes a number greater, to a limit.
func raise(r *rand.Rand, n *int, limit int) { *n += r.IntN(limit - *n + 1) }

// lower makes a number less, to a limit.
func lower(r *rand.Rand, n *int, limit int) { *n -= r.IntN(*n - limit + 1) }

// raiseBoth makes both ends of a span greater, to a limit.
func raiseBoth(r *rand.Rand, s *api.Span, limit int) {
	raise(r, &s.High, limit)
	raise(r, &s.Low, s.High)
}

// lowerBoth makes both ends of a span less, to a limit.
func lowerBoth(r *rand.Rand, s *api.Span, limit int) {
	lower(r, &s.Low, limit)
	lower(r, &s.High, s.Low)
}

// easier are the ways in which an evening can need no more walks.
func easier(r *rand.Rand) map[string]change {
	onePart := func(b *api.EngineBook) *api.EnginePart { return &b.Parts[r.IntN(len(b.Parts))] }
	return map[string]change{
		"more coal":     func(b *api.EngineBook) { raiseBoth(r, &b.Coal, b.Bunker) },
		"more water":    func(b *api.EngineBook) { raiseBoth(r, &b.Water, b.Tank) },
		"a bunker":      func(b *api.EngineBook) { raise(r, &b.Bunker, api.EngineHold) },
		"a tank":        func(b *api.EngineBook) { raise(r, &b.Tank, api.EngineHold) },
		"a scoop":       func(b *api.EngineBook) { raise(r, &b.Scoop, api.EngineLoad) },
		"a pail":        func(b *api.EngineBook) { raise(r, &b.Pail, api.EngineLoad) },
		"more walks":    func(b *api.EngineBook) { raise(r, &onePart(b).Walks, api.EngineWalk) },
		"a shorter one": func(b *api.EngineBook) { lowerBoth(r, &onePart(b).Minutes, 1) },
		"less lamp":     func(b *api.EngineBook) { lower(r, &b.Lamp, 0) },
		"less mark":     func(b *api.EngineBook) { lower(r, &b.Mark, 0) },
		"less burnt":    func(b *api.EngineBook) { lowerBoth(r, &b.Burn[r.IntN(2)], 0) },
		"less drunk":    func(b *api.EngineBook) { lowerBoth(r, &b.Drink[r.IntN(2)], 0) },
	}
}

// P4.13: an evening that is easier needs no more walks.
func TestEasier(t *testing.T) {
	r := rand.New(rand.NewPCG(49, 1))
	saved := map[string]int{}
	for range 1200 {
		b := large(r)
		old, none := engine.Plan(b)
		for name, c := range easier(r) {
			easy := with(b, c)
			right(t, name, engine.Check(easy))
			l, e := engine.Plan(easy)
			if none == api.OK && (e != api.OK || allWalks(l) > allWalks(old)) {
				t.Fatalf("Plan of %v: %v, %d, and with %s, %v: %v", b, old, none, name, easy, l)
			}
			if none != e || allWalks(l) < allWalks(old) {
				saved[name]++
			}
		}
	}
	for name := range easier(r) {
		if saved[name] < 5 {
			t.Errorf("%s saves walks %d times only", name, saved[name])
		}
	}
}

// P4.13 (and P4.6): an evening that can be longer by some minutes can be longer by fewer, but not by more.
func TestLongerByFewer(t *testing.T) {
	r := rand.New(rand.NewPCG(50, 1))
	some := 0
	for range 600 {
		b := large(r)
		i := r.IntN(len(b.Parts))
		most, e := engine.Longer(b, i)
		if e != api.OK {
			continue
		}
		some++
		for by := range 61 {
			long := with(b, func(x *api.EngineBook) { x.Parts[i].Minutes.High += by })
			if long.Parts[i].Minutes.High > api.EngineLong {
				break
			}
			if _, e := engine.Plan(long); (e == api.OK) != (by <= most) {
				t.Fatalf("Longer of %d of %v: %d, and Plan if it is longer by %d: %d", i, b, most, by, e)
			}
		}
	}
	if some < 100 {
		t.Errorf("%d parts can be longer only", some)
	}
}

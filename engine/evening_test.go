package engine_test

import (
	"fmt"
	"math"
	"math/rand/v2"
	"slices"
	"testing"

	"bioscope/api"
	"bioscope/engine"
)

func span(low, high int) api.Span { return api.Span{Low: low, High: high} }

func part(low, high int, light bool, walks int) api.EnginePart {
	return api.EnginePart{Minutes: span(low, high), Light: light, Walks: walks}
}

// plan is one of walks for coal and for water, in turn.
func plan(n ...int) (l []api.EngineWalks) {
	for i := 0; i < len(n); i += 2 {
		l = append(l, api.EngineWalks{Coal: n[i], Water: n[i+1]})
	}
	return l
}

// change is one of an evening.
type change func(b *api.EngineBook)

// example is the evening of the chapter's examples, with some changes.
func example(changes ...change) api.EngineBook {
	return with(api.EngineBook{
		Coal: span(20, 24), Water: span(30, 30), Bunker: 40, Tank: 40, Scoop: 6, Pail: 10,
		Burn: [2]api.Span{span(0, 1), span(1, 2)}, Drink: [2]api.Span{span(0, 1), span(1, 1)},
		Full: span(20, 24), Weak: span(12, 16), Mark: 10, Lamp: 18,
		Parts: []api.EnginePart{part(5, 6, false, 0), part(10, 12, true, 2), part(3, 4, false, 1), part(8, 8, true, 5)},
	}, changes...)
}

// enough is the plan of the examples.
func enough() []api.EngineWalks { return plan(0, 0, 2, 0, 1, 0, 2, 1) }

// with is a copy of an evening after some changes.
func with(b api.EngineBook, changes ...change) api.EngineBook {
	b.Parts = slices.Clone(b.Parts)
	for _, c := range changes {
		c(&b)
	}
	return b
}

func coal(low, high int) change { return func(b *api.EngineBook) { b.Coal = span(low, high) } }

func water(low, high int) change { return func(b *api.EngineBook) { b.Water = span(low, high) } }

func bunker(n int) change { return func(b *api.EngineBook) { b.Bunker = n } }

func tank(n int) change { return func(b *api.EngineBook) { b.Tank = n } }

func scoop(n int) change { return func(b *api.EngineBook) { b.Scoop = n } }

func pail(n int) change { return func(b *api.EngineBook) { b.Pail = n } }

func burn(kind, low, high int) change {
	return func(b *api.EngineBook) { b.Burn[kind] = span(low, high) }
}

func drink(kind, low, high int) change {
	return func(b *api.EngineBook) { b.Drink[kind] = span(low, high) }
}

func full(low, high int) change { return func(b *api.EngineBook) { b.Full = span(low, high) } }

func weak(low, high int) change { return func(b *api.EngineBook) { b.Weak = span(low, high) } }

func mark(n int) change { return func(b *api.EngineBook) { b.Mark = n } }

func lamp(n int) change { return func(b *api.EngineBook) { b.Lamp = n } }

func parts(l ...api.EnginePart) change { return func(b *api.EngineBook) { b.Parts = l } }

func minutes(i, low, high int) change {
	return func(b *api.EngineBook) { b.Parts[i].Minutes = span(low, high) }
}

func walks(i, n int) change { return func(b *api.EngineBook) { b.Parts[i].Walks = n } }

// wrongEvenings are evenings that are not valid, each for a reason of its own.
func wrongEvenings() map[string]api.EngineBook {
	one := part(1, 1, false, 0)
	all := map[string]api.EngineBook{"nothing": {}}
	for name, c := range map[string]change{
		"no bunker": func(b *api.EngineBook) { b.Bunker, b.Coal = 0, span(0, 0) }, "a bunker below 0": func(b *api.EngineBook) { b.Bunker, b.Coal = -1, span(0, 0) },
		"no tank": func(b *api.EngineBook) { b.Tank, b.Water, b.Mark = 0, span(0, 0), 0 }, "a tank below 0": func(b *api.EngineBook) { b.Tank, b.Water, b.Mark = math.MinInt, span(0, 0), 0 },
		"a bunker above 99": bunker(100), "a tank above 99": tank(100), "the most bunker": bunker(math.MaxInt), "the most tank": tank(math.MaxInt),
		"Coal inverted": coal(21, 20), "Coal below 0": coal(-1, 24), "Coal above Bunker": coal(20, 41), "Coal out of Bunker": coal(41, 41), "the most Coal": coal(0, math.MaxInt), "the least Coal": coal(math.MinInt, 0), "a bunker below Coal": bunker(23),
		"Water inverted": water(30, 29), "Water below 0": water(-1, 30), "Water above Tank": water(30, 41), "Water out of Tank": water(41, 42), "the most Water": water(0, math.MaxInt), "the least Water": water(math.MinInt, 0), "a tank below Water": tank(29),
		"no Scoop": scoop(0), "a Scoop below 0": scoop(-6), "a Scoop above 20": scoop(21), "the most Scoop": scoop(math.MaxInt), "no Pail": pail(0), "a Pail below 0": pail(-1), "a Pail above 20": pail(21), "the least Pail": pail(math.MinInt),
		"Burn inverted": burn(0, 1, 0), "Burn below 0": burn(0, -1, 1), "Burn above 3": burn(0, 0, 4), "Burn with light inverted": burn(1, 3, 2), "Burn with light below 0": burn(1, -1, 3), "Burn with light above 3": burn(1, 3, 4), "the most Burn": burn(1, 0, math.MaxInt),
		"Drink inverted": drink(0, 3, 0), "Drink below 0": drink(0, -2, -1), "Drink above 3": drink(0, 4, 4), "Drink with light inverted": drink(1, 1, 0), "Drink with light below 0": drink(1, -1, 0), "Drink with light above 3": drink(1, 1, 4), "the least Drink": drink(0, math.MinInt, 1),
		"Full inverted": full(24, 20), "Full above 60": full(20, 61), "Full below 0": func(b *api.EngineBook) { b.Full, b.Weak = span(-1, 24), span(-1, 16) }, "the most Full": full(20, math.MaxInt),
		"Weak inverted": weak(16, 12), "Weak below 0": weak(-1, 16), "Weak that ends above Full": weak(12, 25), "Weak that begins above Full": weak(21, 24), "Weak above Full": weak(25, 26), "the least Weak": weak(math.MinInt, 16),
		"Mark below 0": mark(-1), "Mark above Tank": mark(41), "the most Mark": mark(math.MaxInt), "a tank below Mark": func(b *api.EngineBook) { b.Mark, b.Tank = 35, 34 }, "Lamp below 0": lamp(-1), "Lamp above 60": lamp(61), "the most Lamp": lamp(math.MaxInt), "the least Lamp": lamp(math.MinInt),
		"no parts": parts(), "six parts": parts(one, one, one, one, one, one), "many parts": parts(make([]api.EnginePart, 1000)...),
		"no minutes": minutes(0, 0, 0), "minutes from 0": minutes(1, 0, 12), "minutes below 0": minutes(3, -8, 8), "minutes above 60": minutes(2, 3, 61), "minutes out of 60": minutes(2, 61, 61), "minutes inverted": minutes(3, 9, 8), "the most minutes": minutes(3, 1, math.MaxInt), "the least minutes": minutes(0, math.MinInt, 6),
		"walks below 0": walks(3, -1), "walks above 5": walks(3, 6), "walks of the first part below 0": walks(0, -1), "the most walks": walks(0, math.MaxInt), "the least walks": walks(1, math.MinInt),
	} {
		all[name] = example(c)
	}
	return all
}

// P4.1: what is just valid.
func TestCheckLimits(t *testing.T) {
	one := part(1, 1, false, 0)
	for i, b := range []api.EngineBook{
		example(), example(bunker(24)), example(tank(30)), example(bunker(99)), example(tank(99)), example(bunker(1), coal(0, 0)), example(bunker(1), coal(1, 1)), example(tank(1), water(0, 1), mark(1)), example(tank(99), water(99, 99), mark(99)), example(bunker(99), coal(0, 99)),
		example(scoop(1)), example(scoop(20)), example(pail(1)), example(pail(20)), example(burn(0, 0, 0)), example(burn(0, 3, 3)), example(burn(1, 0, 3)), example(drink(0, 0, 3)), example(drink(1, 3, 3)), example(drink(1, 0, 0)), example(burn(0, 2, 3), burn(1, 0, 1)),
		example(full(0, 60), weak(0, 60)), example(full(60, 60), weak(60, 60)), example(full(0, 0), weak(0, 0)), example(weak(20, 24)), example(weak(0, 24)), example(weak(20, 20)), example(full(60, 60), weak(0, 0)), example(weak(22, 23), full(22, 30)),
		example(mark(0)), example(mark(40)), example(lamp(0)), example(lamp(60)), example(parts(one)), example(parts(one, one, one, one, one)), example(minutes(0, 1, 60)), example(minutes(3, 60, 60)), example(minutes(3, 1, 1)), example(walks(0, 5)), example(walks(3, 0)),
	} {
		if e := engine.Check(b); e != api.OK {
			t.Errorf("Check of the evening %d: %d", i, e)
		}
	}
}

// call is a function that can be asked, with its results as a text, and those that it has with an error.
type call struct {
	name, zero string
	ask        func(b api.EngineBook, l []api.EngineWalks, n int) (string, api.Errno)
}

// calls are all functions but Check.
func calls() []call {
	number := func(n int, e api.Errno) (string, api.Errno) { return fmt.Sprint(n), e }
	return []call{
		{"Current", "{0 0}", func(b api.EngineBook, l []api.EngineWalks, n int) (string, api.Errno) {
			s, e := engine.Current(b, n)
			return fmt.Sprint(s), e
		}},
		{"Left", "{0 0} {0 0}", func(b api.EngineBook, l []api.EngineWalks, n int) (string, api.Errno) {
			c, w, e := engine.Left(b, l, n)
			return fmt.Sprint(c, w), e
		}},
		{"Fails", "0", func(b api.EngineBook, l []api.EngineWalks, n int) (string, api.Errno) {
			return number(engine.Fails(b, l))
		}},
		{"Plan", "[]", func(b api.EngineBook, l []api.EngineWalks, n int) (string, api.Errno) {
			l, e := engine.Plan(b)
			return fmt.Sprint(l), e
		}},
		{"Parts", "0", func(b api.EngineBook, l []api.EngineWalks, n int) (string, api.Errno) { return number(engine.Parts(b)) }},
		{"Longer", "0", func(b api.EngineBook, l []api.EngineWalks, n int) (string, api.Errno) {
			return number(engine.Longer(b, n))
		}},
		{"Coal", "0", func(b api.EngineBook, l []api.EngineWalks, n int) (string, api.Errno) { return number(engine.Coal(b)) }},
	}
}

// P4.1: Check, and that all functions return its error first.
func TestCheck(t *testing.T) {
	for name, b := range wrongEvenings() {
		if e := engine.Check(b); e != api.ErrEngine {
			t.Errorf("Check of an evening with %s: %d", name, e)
		}
		for _, c := range calls() {
			for _, l := range [][]api.EngineWalks{nil, enough(), plan(9, 9)} {
				for _, n := range []int{-1, 0, 3, 4, 99, math.MaxInt} {
					if got, e := c.ask(b, l, n); got != c.zero || e != api.ErrEngine {
						t.Errorf("%s of an evening with %s: %s, %d", c.name, name, got, e)
					}
				}
			}
		}
	}
}

// some is one of some numbers, mostly small ones.
func some(r *rand.Rand) int {
	odd := []int{math.MinInt, math.MinInt + 1, math.MinInt32, -100, -1, 61, 99, 100, math.MaxInt32, math.MaxInt - 1, math.MaxInt}
	if r.IntN(12) == 0 {
		return odd[r.IntN(len(odd))]
	}
	return r.IntN(6)
}

// anyEvening is any at all.
func anyEvening(r *rand.Rand) api.EngineBook {
	s := func() api.Span { return span(some(r), some(r)+r.IntN(2)) }
	b := api.EngineBook{
		Coal: s(), Water: s(), Bunker: some(r), Tank: some(r), Scoop: some(r), Pail: some(r),
		Burn: [2]api.Span{s(), s()}, Drink: [2]api.Span{s(), s()}, Full: s(), Weak: s(), Mark: some(r), Lamp: some(r),
	}
	if r.IntN(4) > 0 {
		b = example(func(x *api.EngineBook) {
			for _, n := range []*int{&x.Bunker, &x.Tank, &x.Scoop, &x.Pail, &x.Mark, &x.Lamp, &x.Coal.Low, &x.Water.High, &x.Burn[1].High, &x.Drink[0].Low, &x.Full.High, &x.Weak.Low, &x.Parts[2].Minutes.High, &x.Parts[1].Walks} {
				if r.IntN(40) == 0 {
					*n = some(r)
				}
			}
		})
	}
	if r.IntN(8) == 0 {
		b.Parts = make([]api.EnginePart, r.IntN(8))
		for i := range b.Parts {
			b.Parts[i] = api.EnginePart{Minutes: s(), Light: r.IntN(2) == 0, Walks: some(r)}
		}
	}
	return b
}

// P1: no function panics or goes on for ever, and with an error all else is zero.
func TestAnyArguments(t *testing.T) {
	r := rand.New(rand.NewPCG(41, 1))
	seen := map[string]bool{}
	for range 4000 {
		b := anyEvening(r)
		l := make([]api.EngineWalks, r.IntN(7))
		if r.IntN(2) == 0 {
			l = enough()
		}
		for i := range l {
			if r.IntN(6) == 0 {
				l[i] = api.EngineWalks{Coal: some(r), Water: some(r)}
			}
		}
		n := some(r)
		valid := engine.Check(b)
		for _, c := range calls() {
			got, e := c.ask(b, l, n)
			seen[fmt.Sprint(c.name, e)] = true
			if e != api.OK && got != c.zero || valid != api.OK && e != valid || valid == api.OK && e == api.ErrEngine {
				t.Fatalf("%s of %v, %v, %d: %s, %d", c.name, b, l, n, got, e)
			}
		}
	}
	for _, want := range []string{"Current0", "Current40", "Current41", "Left0", "Left40", "Left41", "Left42", "Fails0", "Fails4", "Fails40", "Fails41", "Plan0", "Plan4", "Plan40", "Parts0", "Parts40", "Longer0", "Longer4", "Longer40", "Longer41", "Coal0", "Coal4", "Coal40"} {
		if !seen[want] {
			t.Errorf("there was no %s", want)
		}
	}
}

// P2: the same arguments have the same result, whatever was called before, and in whatever memory they are; also R3, that a nil list is like an empty one.
func TestSameResults(t *testing.T) {
	r := rand.New(rand.NewPCG(42, 1))
	var evenings []api.EngineBook
	var plans [][]api.EngineWalks
	for range 60 {
		b := large(r)
		evenings, plans = append(evenings, b), append(plans, somePlan(r, b))
	}
	first := map[string]string{}
	for round := range 3 {
		for _, i := range r.Perm(len(evenings)) {
			for _, c := range calls() {
				got, e := c.ask(with(evenings[i]), slices.Clone(plans[i]), i%4)
				key, text := fmt.Sprint(c.name, i), fmt.Sprint(got, e)
				if round > 0 && first[key] != text {
					t.Errorf("%s of the evening %d: %s, and then %s", c.name, i, first[key], text)
				}
				first[key] = text
			}
		}
	}
	for _, c := range calls() {
		bare := example(parts())
		bare.Parts = nil
		empty := example(func(b *api.EngineBook) { b.Parts = []api.EnginePart{} })
		for _, l := range [][]api.EngineWalks{nil, {}} {
			_, e := c.ask(bare, l, 0)
			_, f := c.ask(empty, l, 0)
			if e != api.ErrEngine || f != api.ErrEngine {
				t.Errorf("%s of an evening without parts: %d, %d", c.name, e, f)
			}
		}
		one, e := c.ask(example(), nil, 0)
		two, f := c.ask(example(), []api.EngineWalks{}, 0)
		if one != two || e != f {
			t.Errorf("%s with a nil plan and an empty one: %s, %d; %s, %d", c.name, one, e, two, f)
		}
	}
}

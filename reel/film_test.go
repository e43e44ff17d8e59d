package reel_test

import (
	"fmt"
	"math/rand/v2"
	"slices"
	"testing"

	"bioscope/api"
	"bioscope/reel"
)

func s(low, high int) api.Span { return api.Span{Low: low, High: high} }

func of(first, last, feet api.Span) api.ReelReel {
	return api.ReelReel{First: first, Last: last, Feet: feet}
}

// example is the film of the chapter's examples, with some changes.
func example(changes ...func(f *api.ReelFilm)) api.ReelFilm {
	f := api.ReelFilm{
		Reels: []api.ReelReel{
			of(s(10, 12), s(20, 20), s(900, 900)),
			of(s(1, 1), s(9, 11), s(950, 1000)),
			of(s(20, 22), s(20, 30), s(800, 820)),
			of(s(20, 31), s(20, 40), s(700, 700)),
		},
		Turn: s(6, 8), Tear: s(1, 3), Spool: 2000,
	}
	for _, change := range changes {
		change(&f)
	}
	return f
}

// torn is the example with another end of the reel 1, so that it has no order.
func torn(f *api.ReelFilm) { f.Reels[1].Last = s(5, 6) }

func tear(low, high int) func(f *api.ReelFilm) {
	return func(f *api.ReelFilm) { f.Tear = s(low, high) }
}

func spool(feet int) func(f *api.ReelFilm) {
	return func(f *api.ReelFilm) { f.Spool = feet }
}

func reelOf(i int, r api.ReelReel) func(f *api.ReelFilm) {
	return func(f *api.ReelFilm) { f.Reels[i] = r }
}

// spans is a film of reels with these first and last scenes.
func spans(l ...[2]api.Span) api.ReelFilm {
	f := api.ReelFilm{Turn: s(1, 1), Tear: s(0, 0), Spool: 1200}
	for _, x := range l {
		f.Reels = append(f.Reels, of(x[0], x[1], s(100, 100)))
	}
	return f
}

// known is a film of reels with scenes that are known just so.
func known(l ...[2]int) api.ReelFilm {
	var all [][2]api.Span
	for _, x := range l {
		all = append(all, [2]api.Span{s(x[0], x[0]), s(x[1], x[1])})
	}
	return spans(all...)
}

// wrongFilms are films that are not valid, each for a reason of its own.
func wrongFilms() map[string]api.ReelFilm {
	change := map[string]func(f *api.ReelFilm){
		"nothing":              func(f *api.ReelFilm) { *f = api.ReelFilm{} },
		"no reels":             func(f *api.ReelFilm) { f.Reels = nil },
		"an empty list":        func(f *api.ReelFilm) { f.Reels = []api.ReelReel{} },
		"seven reels":          func(f *api.ReelFilm) { f.Reels = slices.Concat(f.Reels, f.Reels[:3]) },
		"First below 0":        func(f *api.ReelFilm) { f.Reels[3].First.Low = -1 },
		"First above 99":       func(f *api.ReelFilm) { f.Reels[3] = of(s(20, 100), s(20, 40), s(1, 1)) },
		"First not a span":     func(f *api.ReelFilm) { f.Reels[1].First = s(2, 1) },
		"Last below 0":         func(f *api.ReelFilm) { f.Reels[1] = of(s(0, 0), s(-1, 5), s(1, 1)) },
		"Last above 99":        func(f *api.ReelFilm) { f.Reels[0].Last.High = 100 },
		"Last not a span":      func(f *api.ReelFilm) { f.Reels[2].Last = s(31, 30) },
		"Last before First":    func(f *api.ReelFilm) { f.Reels[2] = of(s(31, 31), s(20, 30), s(1, 1)) },
		"no feet":              func(f *api.ReelFilm) { f.Reels[0].Feet.Low = 0 },
		"Feet above 1200":      func(f *api.ReelFilm) { f.Reels[0].Feet.High = 1201 },
		"Feet not a span":      func(f *api.ReelFilm) { f.Reels[3].Feet = s(701, 700) },
		"Turn below 1":         func(f *api.ReelFilm) { f.Turn.Low = 0 },
		"Turn above 20":        func(f *api.ReelFilm) { f.Turn.High = 21 },
		"Turn not a span":      func(f *api.ReelFilm) { f.Turn = s(8, 7) },
		"Tear below 0":         func(f *api.ReelFilm) { f.Tear.Low = -1 },
		"Tear above 50":        func(f *api.ReelFilm) { f.Tear.High = 51 },
		"Tear not a span":      func(f *api.ReelFilm) { f.Tear = s(4, 3) },
		"Spool 0":              spool(0),
		"Spool below 0":        spool(-1),
		"Spool above 6000":     spool(6001),
		"numbers that are far": func(f *api.ReelFilm) { f.Tear = s(-1<<63, 1<<63-1) },
	}
	films := map[string]api.ReelFilm{}
	for name, c := range change {
		films[name] = example(c)
	}
	return films
}

// someFilm is a valid film. Its scenes are few, so that many reels follow one another.
func someFilm(r *rand.Rand) api.ReelFilm {
	f := api.ReelFilm{Turn: someSpan(r, 1, 20, 5), Tear: someSpan(r, 0, 50, 1+r.IntN(50)), Spool: 1 + r.IntN(6000)}
	top := 2 + r.IntN(12)
	for range 1 + r.IntN(6) {
		x := of(someSpan(r, 0, top, 3), someSpan(r, 0, top, 3), someSpan(r, 1, 1200, 60))
		if x.First.Low > x.Last.High {
			x.First, x.Last = x.Last, x.First
		}
		f.Reels = append(f.Reels, x)
	}
	return f
}

// someSpan is a span from low to high whose ends are no farther apart than wide.
func someSpan(r *rand.Rand, low, high, wide int) api.Span {
	a := low + r.IntN(high-low+1)
	return s(a, min(high, a+r.IntN(wide+1)))
}

// within is a number of a span.
func within(r *rand.Rand, x api.Span) int { return x.Low + r.IntN(x.High-x.Low+1) }

func has(x api.Span, n int) bool { return x.Low <= n && n <= x.High }

// copyOf is a film that shares no memory with f.
func copyOf(f api.ReelFilm) api.ReelFilm {
	f.Reels = slices.Clone(f.Reels)
	return f
}

// call is one of the functions, asked with as much of a film, a list and two numbers as it takes.
type call struct {
	name string
	ask  func(f api.ReelFilm, list []int, reel, number int) (string, api.Errno)
	zero string
}

// calls are all functions. Their results are texts, in which a nil list is like an empty one.
func calls() []call {
	text := func(x any, e api.Errno) (string, api.Errno) { return fmt.Sprint(x), e }
	return []call{
		{"Check", func(f api.ReelFilm, _ []int, _, _ int) (string, api.Errno) { return text("", reel.Check(f)) }, ""},
		{"IsOrder", func(f api.ReelFilm, l []int, _, _ int) (string, api.Errno) { return text(reel.IsOrder(f, l)) }, "false"},
		{"Orders", func(f api.ReelFilm, _ []int, _, _ int) (string, api.Errno) { return text(reel.Orders(f)) }, "0"},
		{"First", func(f api.ReelFilm, _ []int, _, _ int) (string, api.Errno) { return text(reel.First(f)) }, "[]"},
		{"Places", func(f api.ReelFilm, _ []int, i, _ int) (string, api.Errno) { return text(reel.Places(f, i)) }, "[]"},
		{"Strange", func(f api.ReelFilm, _ []int, _, _ int) (string, api.Errno) { return text(reel.Strange(f)) }, "[]"},
		{"Worn", func(f api.ReelFilm, _ []int, i, n int) (string, api.Errno) { return text(reel.Worn(f, i, n)) }, "{0 0}"},
		{"Shows", func(f api.ReelFilm, _ []int, i, n int) (string, api.Errno) {
			surely, perhaps, e := reel.Shows(f, i, n)
			return text([2]int{surely, perhaps}, e)
		}, "[0 0]"},
		{"Seen", func(f api.ReelFilm, _ []int, i, n int) (string, api.Errno) { return text(reel.Seen(f, i, n)) }, "{0 0}"},
		{"Lasts", func(f api.ReelFilm, l []int, _, n int) (string, api.Errno) { return text(reel.Lasts(f, l, n)) }, "{0 0}"},
		{"Spools", func(f api.ReelFilm, l []int, _, n int) (string, api.Errno) { return text(reel.Spools(f, l, n)) }, "[]"},
		{"Changes", func(f api.ReelFilm, l []int, _, n int) (string, api.Errno) { return text(reel.Changes(f, l, n)) }, "[]"},
	}
}

// right ends the test if a call that must have no error has one.
func right(t *testing.T, name string, e api.Errno) {
	t.Helper()
	if e != api.OK {
		t.Fatalf("%s: error %d", name, e)
	}
}

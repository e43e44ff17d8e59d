package tour_test

import (
	"fmt"
	"math"
	"math/rand/v2"
	"slices"
	"testing"

	"bioscope/api"
	"bioscope/tour"
)

func span(low, high int) api.Span { return api.Span{Low: low, High: high} }

func stay(town, first, last int) api.TourStay {
	return api.TourStay{Town: town, First: first, Last: last}
}

// stays are some, told by their towns, first and last days in turn.
func stays(n ...int) (l []api.TourStay) {
	for i := 0; i < len(n); i += 3 {
		l = append(l, stay(n[i], n[i+1], n[i+2]))
	}
	return l
}

// licences are those of a town of one kind, held from some days on.
func licences(days, fee, notice int, held ...int) api.LicenceTown {
	t := api.LicenceTown{Kinds: []api.LicenceKind{{Days: days, Fee: fee, Notice: notice}}}
	for _, first := range held {
		t.Held = append(t.Held, api.LicencePaper{First: first})
	}
	return t
}

// open are the licences of a town in which something may be shown on thirty days.
func open(first int) api.LicenceTown { return licences(30, 0, 0, first) }

// change is one of a book.
type change func(b *api.TourBook)

// example is the book of the chapter's examples, with some changes.
func example(changes ...change) api.TourBook {
	b := api.TourBook{
		Towns: []api.TourTown{
			{Fair: span(10, 12), Take: span(30, 50), Licence: licences(3, 5, 1, 10)},
			{Fair: span(13, 15), Take: span(40, 60), Licence: licences(7, 20, 10, 9)},
			{Fair: span(20, 21), Take: span(20, 90), Licence: licences(2, 6, 3)},
		},
		Roads: [][]int{{0, 1, 3}, {1, 0, 2}, {3, 2, 0}},
		From:  0, Begin: 9, Cost: 10, Keep: 4,
	}
	b.Towns[1].Licence.Barred = []api.Span{span(14, 14)}
	return with(b, changes...)
}

// with is a copy of a book after some changes.
func with(b api.TourBook, changes ...change) api.TourBook {
	b.Towns, b.Roads = slices.Clone(b.Towns), slices.Clone(b.Roads)
	for i := range b.Towns {
		t := &b.Towns[i].Licence
		t.Kinds, t.Barred, t.Held = slices.Clone(t.Kinds), slices.Clone(t.Barred), slices.Clone(t.Held)
	}
	for i := range b.Roads {
		b.Roads[i] = slices.Clone(b.Roads[i])
	}
	for _, c := range changes {
		c(&b)
	}
	return b
}

func from(n int) change { return func(b *api.TourBook) { b.From = n } }

func begin(n int) change { return func(b *api.TourBook) { b.Begin = n } }

func cost(n int) change { return func(b *api.TourBook) { b.Cost = n } }

func keep(n int) change { return func(b *api.TourBook) { b.Keep = n } }

func fair(i, low, high int) change {
	return func(b *api.TourBook) { b.Towns[i].Fair = span(low, high) }
}

func take(i, low, high int) change {
	return func(b *api.TourBook) { b.Towns[i].Take = span(low, high) }
}

func papers(i int, t api.LicenceTown) change {
	return func(b *api.TourBook) { b.Towns[i].Licence = t }
}

func barred(i int, l ...api.Span) change {
	return func(b *api.TourBook) { b.Towns[i].Licence.Barred = l }
}

func road(from, to, days int) change { return func(b *api.TourBook) { b.Roads[from][to] = days } }

func roads(l ...[]int) change { return func(b *api.TourBook) { b.Roads = l } }

// towns are so many copies of the first town, each a day from each other one.
func towns(many int) change {
	return func(b *api.TourBook) {
		b.Towns = slices.Repeat(b.Towns[:1], many)
		b.Roads = nil
		for i := range many {
			b.Roads = append(b.Roads, slices.Repeat([]int{1}, many))
			b.Roads[i][i] = 0
		}
	}
}

// wrongBooks are books that are not valid, each for a reason of its own.
func wrongBooks() map[string]api.TourBook {
	all := map[string]api.TourBook{"nothing": {}, "no more than a road": {Roads: [][]int{{0}}}}
	for name, c := range map[string]change{
		"no towns": func(b *api.TourBook) { b.Towns, b.Roads = nil, nil }, "five towns": towns(5), "many towns": towns(300),
		"a fair of nine days": fair(0, 10, 18), "a fair of all days": fair(1, 0, 999), "a fair below 0": fair(0, -1, 5), "a fair above 999": fair(2, 998, 1000), "a fair out of 999": fair(0, 1000, 1000), "a fair before 0": fair(0, -2, -1), "a fair inverted": fair(0, 12, 10), "a fair far below 0": fair(1, math.MinInt, 5), "a fair far above 999": fair(2, 5, math.MaxInt), "a fair of all numbers": fair(0, math.MinInt, math.MaxInt), "a fair inverted by far": fair(0, math.MaxInt, math.MinInt), "a last fair of nine days": fair(2, 20, 28),
		"takings below 0": take(0, -1, 5), "takings above 10000": take(1, 30, 10001), "takings inverted": take(2, 31, 30), "takings far below 0": take(0, math.MinInt, 5), "takings far above 10000": take(2, 5, math.MaxInt), "all takings": take(1, math.MinInt, math.MaxInt), "takings out of 10000": take(0, 10001, 10001), "takings before 0": take(2, -1, -1),
		"no kinds of licences": func(b *api.TourBook) { b.Towns[0].Licence.Kinds, b.Towns[0].Licence.Held = nil, nil }, "a Close above 1439": func(b *api.TourBook) { b.Towns[2].Licence.Close = 1440 }, "licences that overlap": papers(1, licences(7, 20, 10, 9, 15)), "a last town without kinds": papers(2, api.LicenceTown{}), "a licence that is held too long": papers(0, licences(31, 5, 1)),
		"no roads": roads(), "too few rows": func(b *api.TourBook) { b.Roads = b.Roads[:2] }, "too many rows": func(b *api.TourBook) { b.Roads = append(b.Roads, []int{1, 1, 1}) }, "a short row": func(b *api.TourBook) { b.Roads[2] = b.Roads[2][1:] }, "a long row": func(b *api.TourBook) { b.Roads[0] = append(b.Roads[0], 1) }, "an empty row": func(b *api.TourBook) { b.Roads[1] = nil },
		"a road to the same town": road(0, 0, 1), "a last road to the same town": road(2, 2, 30), "a road to the same town below 0": road(1, 1, -1), "a road of no days": road(0, 1, 0), "a last road of no days": road(2, 1, 0), "a road below 0": road(1, 0, -1), "a road of 31 days": road(0, 2, 31), "a road of all days": road(2, 0, math.MaxInt), "a road of the least days": road(1, 2, math.MinInt),
		"a From below 0": from(-1), "a From too far": from(3), "the most From": from(math.MaxInt), "the least From": from(math.MinInt),
		"a Begin below 0": begin(-1), "a Begin above 999": begin(1000), "the most Begin": begin(math.MaxInt), "the least Begin": begin(math.MinInt),
		"a Cost below 0": cost(-1), "a Cost above 500": cost(501), "the most Cost": cost(math.MaxInt), "the least Cost": cost(math.MinInt),
		"a Keep below 0": keep(-1), "a Keep above 500": keep(501), "the most Keep": keep(math.MaxInt), "the least Keep": keep(math.MinInt),
	} {
		all[name] = example(c)
	}
	return all
}

// P7.1: what is just valid.
func TestCheckLimits(t *testing.T) {
	for i, x := range []api.TourBook{
		example(), example(towns(1)), example(towns(2)), example(towns(4)), example(from(1)), example(from(2)), example(towns(4), from(3)),
		example(fair(0, 10, 17)), example(fair(0, 10, 10)), example(fair(0, 0, 7)), example(fair(0, 0, 0)), example(fair(2, 992, 999)), example(fair(2, 999, 999)), example(fair(1, 10, 12)),
		example(take(0, 0, 0)), example(take(0, 0, 10000)), example(take(0, 10000, 10000)), example(papers(0, licences(1, 0, 0))), example(papers(0, licences(30, 1000, 30, 999))), example(barred(0, span(0, 999))),
		example(road(0, 1, 30)), example(road(0, 2, 1)), example(road(2, 0, 30), road(0, 2, 1)), example(begin(0)), example(begin(999)), example(cost(0)), example(cost(500)), example(keep(0)), example(keep(500)),
	} {
		if e := tour.Check(x); e != api.OK {
			t.Errorf("Check of the book %d: %d", i, e)
		}
	}
}

// asked is what the functions are asked, each one as much of it as it takes.
type asked struct {
	town, day int
	tour      []api.TourStay
}

// call is a function that can be asked, with its results as a text, and those that it has with an error.
type call struct {
	name, zero string
	ask        func(b api.TourBook, a asked) (string, api.Errno)
}

// calls are all functions but Check.
func calls() []call {
	text := func(x any, e api.Errno) (string, api.Errno) { return fmt.Sprint(x), e }
	return []call{
		{"Shown", "[]", func(b api.TourBook, a asked) (string, api.Errno) { return text(tour.Shown(b, a.town)) }},
		{"IsTour", "false", func(b api.TourBook, a asked) (string, api.Errno) { return text(tour.IsTour(b, a.tour)) }},
		{"Worth", "{0 0}", func(b api.TourBook, a asked) (string, api.Errno) { return text(tour.Worth(b, a.tour)) }},
		{"Best", "[]", func(b api.TourBook, a asked) (string, api.Errno) { return text(tour.Best(b)) }},
		{"Gain", "0", func(b api.TourBook, a asked) (string, api.Errno) { return text(tour.Gain(b)) }},
		{"Purse", "0", func(b api.TourBook, a asked) (string, api.Errno) { return text(tour.Purse(b, a.tour)) }},
		{"Where", "0", func(b api.TourBook, a asked) (string, api.Errno) { return text(tour.Where(b, a.tour, a.day)) }},
		{"Next", "[]", func(b api.TourBook, a asked) (string, api.Errno) { return text(tour.Next(b, a.tour)) }},
		{"Papers", "0", func(b api.TourBook, a asked) (string, api.Errno) { return text(tour.Papers(b, a.tour, a.day)) }},
	}
}

// P7.1: Check, and that all functions return its error first.
func TestCheck(t *testing.T) {
	for name, x := range wrongBooks() {
		if e := tour.Check(x); e != api.ErrTour {
			t.Errorf("Check of a book with %s: %d", name, e)
		}
		for _, c := range calls() {
			for _, a := range []asked{{0, 9, stays(0, 10, 12)}, {-1, 1000, stays(3, 8, 7)}, {}} {
				if got, e := c.ask(x, a); got != c.zero || e != api.ErrTour {
					t.Errorf("%s of a book with %s: %s, %d", c.name, name, got, e)
				}
			}
		}
	}
}

// notTours are stays that are no tours of the examples' book, each for a reason of its own.
func notTours() map[string][]api.TourStay {
	return map[string][]api.TourStay{
		"before the road ends": stays(1, 9, 15), "before the long road ends": stays(2, 11, 21), "before the beginning": stays(0, 8, 12), "before the second road ends": stays(0, 10, 12, 1, 12, 15), "before the third road ends": stays(0, 10, 12, 1, 13, 15, 2, 16, 16), "before the long second road ends": stays(0, 10, 12, 2, 14, 21), "in the wrong order": stays(1, 13, 15, 0, 10, 12),
		"inverted": stays(0, 12, 10), "inverted behind others": stays(0, 10, 12, 1, 15, 14), "on days of one another": stays(0, 10, 14, 1, 14, 15),
		"in no town": stays(3, 20, 20), "in a town below 0": stays(-1, 20, 20), "in the last town": stays(math.MaxInt, 20, 20), "in the least town": stays(math.MinInt, 20, 20), "in no town behind others": stays(0, 10, 12, 3, 20, 20),
		"twice in a town": stays(0, 10, 10, 0, 11, 11), "twice in a town, not at once": stays(0, 10, 10, 1, 13, 13, 0, 20, 20), "in all towns, and in one again": stays(0, 10, 12, 1, 13, 15, 2, 20, 21, 0, 30, 30),
		"beyond 999": stays(0, 999, 1000), "wholly beyond 999": stays(0, 1000, 1000), "beyond 999 behind others": stays(0, 10, 998, 1, 999, 1000), "far beyond 999": stays(0, 10, math.MaxInt), "at the end of all days": stays(2, math.MaxInt, math.MaxInt), "before all days": stays(0, math.MinInt, math.MinInt), "on all days": stays(0, math.MinInt, math.MaxInt), "below 0": stays(0, -1, 12), "inverted by far": stays(0, math.MaxInt, math.MinInt),
		"five times": stays(0, 10, 10, 1, 13, 13, 2, 20, 20, 0, 30, 30, 1, 40, 40), "many times": slices.Repeat(stays(0, 10, 10), 1000),
	}
}

// P7.1 to P7.6: what cannot be asked.
func TestWrongQuestions(t *testing.T) {
	right := asked{0, 9, stays(0, 10, 12)}
	for _, c := range calls() {
		var wrong []asked
		if c.name == "Shown" {
			for _, town := range []int{-1, 3, 4, math.MaxInt, math.MinInt} {
				wrong = append(wrong, asked{town, right.day, right.tour})
			}
		}
		if slices.Contains([]string{"Where", "Papers"}, c.name) {
			for _, day := range []int{-1, 1000, math.MaxInt, math.MinInt} {
				wrong = append(wrong, asked{right.town, day, right.tour}, asked{right.town, day, nil})
			}
		}
		if slices.Contains([]string{"Worth", "Purse", "Where", "Next", "Papers"}, c.name) {
			for _, l := range notTours() {
				wrong = append(wrong, asked{right.town, right.day, l}, asked{right.town, -1, l})
			}
		}
		if _, e := c.ask(example(), right); e != api.OK {
			t.Errorf("%s: %d", c.name, e)
		}
		for _, a := range wrong {
			// no licence can be asked for in time: the error of the question comes first
			for _, x := range []api.TourBook{example(), example(barred(0, span(0, 999)))} {
				if got, e := c.ask(x, a); got != c.zero || e != api.ErrTourAsk {
					t.Errorf("%s asked %v: %s, %d", c.name, a, got, e)
				}
			}
		}
	}
}

// some is a number that is not greater than most, or any other one.
func some(r *rand.Rand, most int) int {
	odd := []int{math.MinInt, math.MinInt + 1, math.MinInt32, -1000, -1, 3, 4, 8, 30, 31, 500, 501, 999, 1000, 10000, 10001, math.MaxInt32, math.MaxInt - 1, math.MaxInt}
	if r.IntN(15) == 0 {
		return odd[r.IntN(len(odd))]
	}
	return r.IntN(most + 1)
}

// anyBook is that of the examples with a few numbers that can be any at all.
func anyBook(r *rand.Rand) api.TourBook {
	return example(func(b *api.TourBook) {
		if r.IntN(8) == 0 {
			towns(r.IntN(6))(b)
		}
		all := []*int{&b.From, &b.Begin, &b.Cost, &b.Keep}
		for i := range b.Towns {
			x := &b.Towns[i]
			all = append(all, &x.Fair.Low, &x.Fair.High, &x.Take.Low, &x.Take.High, &x.Licence.Pause, &x.Licence.Close, &x.Licence.Kinds[0].Days, &x.Licence.Kinds[0].Fee, &x.Licence.Kinds[0].Notice)
		}
		for i := range b.Roads {
			for j := range b.Roads[i] {
				all = append(all, &b.Roads[i][j])
			}
		}
		for _, n := range all {
			if r.IntN(40) == 0 {
				*n = some(r, 1+r.IntN(20))
			}
		}
		if r.IntN(20) == 0 && len(b.Roads) > 0 {
			i := r.IntN(len(b.Roads))
			b.Roads[i] = b.Roads[i][1:]
		}
	})
}

// P1: no function panics or goes on for ever, and with an error all else is zero.
func TestAnyArguments(t *testing.T) {
	r := rand.New(rand.NewPCG(71, 1))
	seen := map[string]bool{}
	for range 8000 {
		x, a := anyBook(r), asked{town: some(r, 3), day: some(r, 40)}
		day := 9
		for range r.IntN(4) {
			first := day + some(r, 5)
			day = first + some(r, 5)
			a.tour = append(a.tour, stay(some(r, 2), first, day))
		}
		valid := tour.Check(x)
		for _, c := range calls() {
			got, e := c.ask(x, a)
			seen[fmt.Sprint(c.name, e)] = true
			if e != api.OK && got != c.zero || valid != api.OK && e != valid || valid == api.OK && e == api.ErrTour {
				t.Fatalf("%s of %v, %v: %s, %d", c.name, x, a, got, e)
			}
		}
	}
	for _, c := range calls() {
		want := []api.Errno{api.OK, api.ErrTour}
		if !slices.Contains([]string{"IsTour", "Best", "Gain"}, c.name) {
			want = append(want, api.ErrTourAsk)
		}
		if c.name == "Papers" {
			want = append(want, api.ErrNone)
		}
		for _, e := range want {
			if !seen[fmt.Sprint(c.name, e)] {
				t.Errorf("there was no %s with %d", c.name, e)
			}
		}
	}
}

// P1: what is asked may be as long as it likes, and the season, too.
func TestLongArguments(t *testing.T) {
	long := make([]api.TourStay, 1<<20)
	for i := range long {
		long[i] = stay(i, i, i)
	}
	for _, c := range calls() {
		want := api.ErrTourAsk
		if slices.Contains([]string{"Shown", "IsTour", "Best", "Gain"}, c.name) {
			want = api.OK
		}
		if got, e := c.ask(example(towns(4), begin(0)), asked{tour: long}); got == "true" || e != want {
			t.Errorf("%s with a long list: %s, %d", c.name, got, e)
		}
		if _, e := c.ask(example(towns(4), begin(0)), asked{tour: stays(0, 0, 998, 1, 999, 999)}); e != api.OK {
			t.Errorf("%s with a long stay: %d", c.name, e)
		}
	}
}

// P2: the same arguments have the same result, whatever was called before, and in whatever memory they are; also R3, that a nil list is like an empty one.
func TestSameResults(t *testing.T) {
	r := rand.New(rand.NewPCG(72, 1))
	var books []api.TourBook
	var questions []asked
	for range 60 {
		x := large(r)
		books = append(books, x)
		questions = append(questions, asked{r.IntN(len(x.Towns)), x.Begin + r.IntN(50), someTour(r, x, 8)})
	}
	first := map[string]string{}
	for round := range 3 {
		for _, i := range r.Perm(len(books)) {
			for _, c := range calls() {
				a := questions[i]
				a.tour = slices.Clone(a.tour)
				got, e := c.ask(with(books[i]), a)
				key, text := fmt.Sprint(c.name, i), fmt.Sprint(got, e)
				// Any of several best tours will do.
				if round > 0 && first[key] != text && c.name != "Best" {
					t.Errorf("%s of the book %d: %s, and then %s", c.name, i, first[key], text)
				}
				first[key] = text
			}
		}
	}
	empty := example()
	for i := range empty.Towns {
		x := &empty.Towns[i].Licence
		x.Held, x.Barred = append([]api.LicencePaper{}, x.Held...), append([]api.Span{}, x.Barred...)
	}
	for _, c := range calls() {
		one, e := c.ask(example(), asked{})
		two, f := c.ask(empty, asked{tour: []api.TourStay{}})
		if one != two || e != api.OK || f != api.OK {
			t.Errorf("%s with nil lists and with empty ones: %s, %d; %s, %d", c.name, one, e, two, f)
		}
		for _, x := range []api.TourBook{example(func(b *api.TourBook) { b.Towns, b.Roads = []api.TourTown{}, [][]int{} }), example(roads([][]int{}...)), example(func(b *api.TourBook) { b.Roads[0] = []int{} })} {
			if got, e := c.ask(x, asked{}); got != c.zero || e != api.ErrTour {
				t.Errorf("%s of a book with an empty list: %s, %d", c.name, got, e)
			}
		}
	}
}

package bill_test

import (
	"fmt"
	"math"
	"math/rand/v2"
	"slices"
	"testing"

	"bioscope/api"
	"bioscope/bill"
)

func span(low, high int) api.Span { return api.Span{Low: low, High: high} }

// reel is one of which all is known.
func reel(first, last, feet int) api.ReelReel {
	return api.ReelReel{First: span(first, first), Last: span(last, last), Feet: span(feet, feet)}
}

func reels(turn api.Span, spool int, l ...api.ReelReel) api.ReelFilm {
	return api.ReelFilm{Reels: l, Turn: turn, Tear: span(1, 3), Spool: spool}
}

// change is one of a book.
type change func(b *api.BillBook)

// example is the book of the chapter's examples, with some changes.
func example(changes ...change) api.BillBook {
	return with(api.BillBook{
		Town: api.LicenceTown{
			Kinds: []api.LicenceKind{{Days: 1, Fee: 5, Notice: 2}, {Days: 7, Fee: 20, Notice: 10}},
			Pause: 1, Barred: []api.Span{span(105, 106)}, Forbidden: 8, Close: 1350, Held: []api.LicencePaper{{Kind: 1, First: 100}},
		},
		Day: 101, Change: span(60, 120), Pause: span(5, 5),
		Films: []api.BillFilm{
			{Film: 2, Reels: reels(span(6, 8), 1000, reel(1, 5, 900)), Until: 1439},
			{Film: 5, Reels: reels(span(6, 6), 1000, reel(1, 4, 1000), reel(5, 9, 800)), From: 1320, Until: 1439},
			{Film: 3, Reels: reels(span(5, 5), 6000, reel(1, 5, 1200)), Until: 1439},
		},
	}, changes...)
}

// brief are films of one reel each, of so many feet that last a tenth of a second each; anything may be shown at any time on the first day.
func brief(feet ...int) api.BillBook {
	b := api.BillBook{Town: api.LicenceTown{Kinds: []api.LicenceKind{{Days: 1}}, Close: 1439, Held: []api.LicencePaper{{}}}}
	for i, n := range feet {
		b.Films = append(b.Films, api.BillFilm{Film: i, Reels: reels(span(1, 1), 6000, reel(1, 1, n)), Until: 1439})
	}
	return b
}

// with is a copy of a book after some changes.
func with(b api.BillBook, changes ...change) api.BillBook {
	b.Town.Kinds, b.Town.Barred, b.Town.Held = slices.Clone(b.Town.Kinds), slices.Clone(b.Town.Barred), slices.Clone(b.Town.Held)
	b.Films = slices.Clone(b.Films)
	for i := range b.Films {
		b.Films[i].Reels.Reels = slices.Clone(b.Films[i].Reels.Reels)
	}
	for _, c := range changes {
		c(&b)
	}
	return b
}

func two(b *api.BillBook) { b.Two = true }

func day(n int) change { return func(b *api.BillBook) { b.Day = n } }

func closes(n int) change { return func(b *api.BillBook) { b.Town.Close = n } }

func forbidden(n int) change { return func(b *api.BillBook) { b.Town.Forbidden = n } }

func changing(low, high int) change { return func(b *api.BillBook) { b.Change = span(low, high) } }

func pause(low, high int) change { return func(b *api.BillBook) { b.Pause = span(low, high) } }

func films(l ...api.BillFilm) change { return func(b *api.BillBook) { b.Films = l } }

func number(i, n int) change { return func(b *api.BillBook) { b.Films[i].Film = n } }

func shows(i, n int) change { return func(b *api.BillBook) { b.Films[i].Shows = n } }

func from(i, n int) change { return func(b *api.BillBook) { b.Films[i].From = n } }

func until(i, n int) change { return func(b *api.BillBook) { b.Films[i].Until = n } }

func spool(i, n int) change { return func(b *api.BillBook) { b.Films[i].Reels.Spool = n } }

func turn(i, low, high int) change {
	return func(b *api.BillBook) { b.Films[i].Reels.Turn = span(low, high) }
}

func tear(i, low, high int) change {
	return func(b *api.BillBook) { b.Films[i].Reels.Tear = span(low, high) }
}

func made(i int, l ...api.ReelReel) change {
	return func(b *api.BillBook) { b.Films[i].Reels.Reels = l }
}

// wrongBooks are books that are not valid, each for a reason of its own.
func wrongBooks() map[string]api.BillBook {
	all := map[string]api.BillBook{"nothing": {}}
	for name, c := range map[string]change{
		"no kinds of licences": func(b *api.BillBook) { b.Town.Kinds, b.Town.Held = nil, nil }, "a Close above 1439": closes(1440), "a film forbidden that there is not": forbidden(65536), "licences that touch": func(b *api.BillBook) { b.Town.Held = append(b.Town.Held, api.LicencePaper{First: 107}) },
		"a Day below 0": day(-1), "a Day above 999": day(1000), "the most Day": day(math.MaxInt), "the least Day": day(math.MinInt),
		"no films": films(), "six films": films(slices.Repeat(example().Films, 2)...), "many films": films(slices.Repeat(example().Films, 1000)...),
		"a Change below 0": changing(-1, 5), "a Change above 600": changing(0, 601), "a Change inverted": changing(6, 5), "a Change far below 0": changing(math.MinInt, 5), "a Change far above 600": changing(0, math.MaxInt), "all Changes": changing(math.MinInt, math.MaxInt), "a Change out of 600": changing(601, 601), "a wrong Change that is not needed": func(b *api.BillBook) { b.Two, b.Change = true, span(0, 601) },
		"a Pause below 0": pause(-1, 5), "a Pause above 60": pause(0, 61), "a Pause inverted": pause(6, 5), "a Pause far below 0": pause(math.MinInt, 5), "a Pause far above 60": pause(0, math.MaxInt), "all Pauses": pause(math.MinInt, math.MaxInt), "a Pause below 0 at its end": pause(-2, -1), "a wrong Pause that is not needed": func(b *api.BillBook) { b.Films, b.Pause = b.Films[:1], span(0, 61) },
		"a Film below 0": number(0, -1), "a Film above 15": number(1, 16), "the most Film": number(2, math.MaxInt), "the least Film": number(0, math.MinInt),
		"Shows below 0": shows(0, -1), "Shows above 999": shows(2, 1000), "the most Shows": shows(1, math.MaxInt), "the least Shows": shows(0, math.MinInt),
		"a From below 0": from(0, -1), "a From above 1439": func(b *api.BillBook) { b.Films[1].From, b.Films[1].Until = 1440, 1440 }, "the least From": from(2, math.MinInt), "the most From": from(2, math.MaxInt),
		"an Until below 0": func(b *api.BillBook) { b.Films[0].From, b.Films[0].Until = -1, -1 }, "an Until above 1439": until(1, 1440), "an Until before From": until(1, 1319), "the most Until": until(2, math.MaxInt), "the least Until": until(2, math.MinInt),
		"no reels": made(0), "seven reels": made(0, slices.Repeat([]api.ReelReel{reel(1, 1, 5)}, 7)...), "many reels": made(2, slices.Repeat([]api.ReelReel{reel(1, 1, 5)}, 10000)...), "a reel that ends before it begins": made(0, reel(5, 4, 900)), "a reel of no feet": made(1, reel(1, 4, 1000), reel(5, 9, 0)), "a reel of too many feet": made(2, reel(1, 5, 1201)),
		"a Turn of 0": turn(1, 0, 6), "a Turn above 20": turn(2, 5, 21), "a Tear above 50": tear(0, 1, 51), "a Tear inverted": tear(0, 3, 1), "no Spool": spool(0, 0), "a Spool above 6000": spool(2, 6001),
		"reels that do not follow": made(1, reel(1, 4, 1000), reel(6, 9, 800)), "reels that do not follow, three": made(0, reel(1, 2, 5), reel(1, 1, 5), reel(5, 6, 5)),
		"a reel too long for a spool": spool(1, 999), "the only reel too long for a spool": spool(0, 899), "a reel that may be too long for a spool": func(b *api.BillBook) {
			b.Films[0].Reels.Reels[0].Feet.High, b.Films[0].Reels.Reels[0].Feet.Low = 1001, 1
		}, "a worn reel that may be too long for a spool": func(b *api.BillBook) { b.Films[1].Shows, b.Films[1].Reels.Spool = 10, 989 }, "a reel that may not be worn": func(b *api.BillBook) {
			b.Films[1].Shows, b.Films[1].Reels.Spool, b.Films[1].Reels.Tear = 999, 999, span(0, 50)
		}, "two projectors and too long a reel": func(b *api.BillBook) { b.Two, b.Films[1].Reels.Spool = true, 999 },
	} {
		all[name] = example(c)
	}
	return all
}

// P6.1: what is just valid.
func TestCheckLimits(t *testing.T) {
	five := slices.Concat(example().Films, example().Films[:2])
	for i, x := range []api.BillBook{
		example(), brief(1), brief(1, 1, 1, 1, 1200), example(films(five...)), example(day(0)), example(day(999)), example(two),
		example(changing(0, 0)), example(changing(0, 600)), example(changing(600, 600)), example(pause(0, 0)), example(pause(0, 60)), example(pause(60, 60)),
		example(number(0, 0)), example(number(0, 15)), example(number(0, 5)), example(shows(0, 999)), example(shows(1, 999)), example(until(1, 1320)), example(from(1, 1439)), example(from(0, 0), until(0, 0)), example(from(0, 1439)),
		example(spool(1, 1000)), example(spool(0, 900)), example(spool(0, 6000)), example(shows(1, 10), spool(1, 990)), example(shows(1, 999), spool(1, 1)), example(shows(1, 20), tear(1, 50, 50), spool(1, 1)),
		example(made(1, reel(5, 9, 800), reel(1, 4, 1000))), example(made(0, reel(1, 1, 1), reel(1, 1, 1), reel(1, 1, 1), reel(1, 1, 1), reel(1, 1, 1), reel(1, 1, 1))), example(turn(0, 1, 20)), example(tear(0, 0, 50)),
	} {
		if e := bill.Check(x); e != api.OK {
			t.Errorf("Check of the book %d: %d", i, e)
		}
	}
}

// asked is what the functions are asked, each one as much of it as it takes.
type asked struct {
	film, at int
	bill     []int
}

// call is a function that can be asked, with its results as a text, and those that it has with an error.
type call struct {
	name, zero string
	ask        func(b api.BillBook, a asked) (string, api.Errno)
}

// calls are all functions but Check.
func calls() []call {
	text := func(x any, e api.Errno) (string, api.Errno) { return fmt.Sprint(x), e }
	return []call{
		{"Long", "{0 0}", func(b api.BillBook, a asked) (string, api.Errno) { return text(bill.Long(b, a.film)) }},
		{"Ends", "[]", func(b api.BillBook, a asked) (string, api.Errno) { return text(bill.Ends(b, a.bill, a.at)) }},
		{"Why", "[]", func(b api.BillBook, a asked) (string, api.Errno) { return text(bill.Why(b, a.bill, a.at)) }},
		{"Latest", "0", func(b api.BillBook, a asked) (string, api.Errno) { return text(bill.Latest(b, a.bill)) }},
		{"Best", "[]", func(b api.BillBook, a asked) (string, api.Errno) { return text(bill.Best(b, a.at)) }},
		{"Leave", "[]", func(b api.BillBook, a asked) (string, api.Errno) { return text(bill.Leave(b, a.bill, a.at)) }},
	}
}

// P6.1: Check, and that all functions return its error first.
func TestCheck(t *testing.T) {
	for name, x := range wrongBooks() {
		if e := bill.Check(x); e != api.ErrBill {
			t.Errorf("Check of a book with %s: %d", name, e)
		}
		for _, c := range calls() {
			for _, a := range []asked{{0, 1300, []int{0}}, {-1, 1440, []int{0, 0}}, {}} {
				if got, e := c.ask(x, a); got != c.zero || e != api.ErrBill {
					t.Errorf("%s of a book with %s: %s, %d", c.name, name, got, e)
				}
			}
		}
	}
}

// P6.1 to P6.6: what cannot be asked.
func TestWrongQuestions(t *testing.T) {
	right := asked{0, 1300, []int{0}}
	bills := map[string][]int{"no films": nil, "an empty list": {}, "a film too far": {3}, "a film below 0": {-1}, "a film twice": {0, 0}, "a film twice, not at once": {0, 1, 0}, "a last film too far": {0, 1, 2, 3}, "the most": {math.MaxInt}, "the least": {1, math.MinInt}, "all films and one again": {0, 1, 2, 1}, "a film of the town": {5}}
	for _, c := range calls() {
		var wrong []asked
		if c.name == "Long" {
			for _, film := range []int{-1, 3, 5, math.MaxInt, math.MinInt} {
				wrong = append(wrong, asked{film, right.at, right.bill})
			}
		}
		if slices.Contains([]string{"Ends", "Why", "Best", "Leave"}, c.name) {
			for _, at := range []int{-1, 1440, math.MaxInt, math.MinInt} {
				wrong = append(wrong, asked{right.film, at, right.bill})
			}
		}
		if slices.Contains([]string{"Ends", "Why", "Latest", "Leave"}, c.name) {
			for _, l := range bills {
				wrong = append(wrong, asked{right.film, right.at, l}, asked{right.film, -1, l})
			}
		}
		if _, e := c.ask(example(), right); e != api.OK {
			t.Errorf("%s: %d", c.name, e)
		}
		for _, a := range wrong {
			// nothing may be shown on the day 107: the error of the question comes first
			for _, x := range []api.BillBook{example(), example(day(107))} {
				if got, e := c.ask(x, a); got != c.zero || e != api.ErrBillAsk {
					t.Errorf("%s asked %v: %s, %d", c.name, a, got, e)
				}
			}
		}
	}
}

// some is a number that is not greater than most, or any other one.
func some(r *rand.Rand, most int) int {
	odd := []int{math.MinInt, math.MinInt + 1, math.MinInt32, -600, -1, 5, 16, 60, 61, 600, 601, 999, 1000, 1439, 1440, math.MaxInt32, math.MaxInt - 1, math.MaxInt}
	if r.IntN(15) == 0 {
		return odd[r.IntN(len(odd))]
	}
	return r.IntN(most + 1)
}

// anyBook is that of the examples with a few numbers that can be any at all.
func anyBook(r *rand.Rand) api.BillBook {
	return example(func(b *api.BillBook) {
		if r.IntN(6) == 0 {
			b.Films = slices.Repeat(b.Films, r.IntN(4))
		}
		all := []*int{&b.Day, &b.Town.Close, &b.Town.Forbidden, &b.Town.Held[0].First, &b.Change.Low, &b.Change.High, &b.Pause.Low, &b.Pause.High}
		for i := range b.Films {
			f := &b.Films[i]
			all = append(all, &f.Film, &f.Shows, &f.From, &f.Until, &f.Reels.Spool, &f.Reels.Turn.Low, &f.Reels.Turn.High, &f.Reels.Tear.Low, &f.Reels.Tear.High)
			for j := range f.Reels.Reels {
				x := &f.Reels.Reels[j]
				all = append(all, &x.First.Low, &x.First.High, &x.Last.Low, &x.Last.High, &x.Feet.Low, &x.Feet.High)
			}
		}
		for _, n := range all {
			if r.IntN(60) == 0 {
				*n = some(r, 1+r.IntN(1440))
			}
		}
	})
}

// P1: no function panics or goes on for ever, and with an error all else is zero.
func TestAnyArguments(t *testing.T) {
	r := rand.New(rand.NewPCG(61, 1))
	seen := map[string]bool{}
	for range 8000 {
		x, a := anyBook(r), asked{film: some(r, 3), at: some(r, 1439)}
		for range r.IntN(5) {
			a.bill = append(a.bill, some(r, 2))
		}
		valid := bill.Check(x)
		for _, c := range calls() {
			got, e := c.ask(x, a)
			seen[fmt.Sprint(c.name, e)] = true
			if e != api.OK && got != c.zero || valid != api.OK && e != valid || valid == api.OK && e == api.ErrBill {
				t.Fatalf("%s of %v, %v: %s, %d", c.name, x, a, got, e)
			}
		}
	}
	for _, c := range calls() {
		want := []api.Errno{api.OK, api.ErrBill, api.ErrBillAsk}
		if c.name == "Latest" || c.name == "Best" {
			want = append(want, api.ErrNone)
		}
		for _, e := range want {
			if !seen[fmt.Sprint(c.name, e)] {
				t.Errorf("there was no %s with %d", c.name, e)
			}
		}
	}
}

// P1: what is asked may be as long as it likes.
func TestLongArguments(t *testing.T) {
	long := make([]int, 1<<20)
	for i := range long {
		long[i] = i
	}
	for _, c := range calls() {
		want := api.ErrBillAsk
		if c.name == "Long" || c.name == "Best" {
			want = api.OK
		}
		if _, e := c.ask(brief(600, 700, 800, 900, 1000), asked{bill: long}); e != want {
			t.Errorf("%s with a long list: %d", c.name, e)
		}
	}
}

// P2: the same arguments have the same result, whatever was called before, and in whatever memory they are; also R3, that a nil list is like an empty one.
func TestSameResults(t *testing.T) {
	r := rand.New(rand.NewPCG(62, 1))
	var books []api.BillBook
	var questions []asked
	for range 60 {
		x := large(r)
		books = append(books, x)
		questions = append(questions, asked{r.IntN(len(x.Films)), 1100 + r.IntN(340), someBill(r, x)})
	}
	first := map[string]string{}
	for round := range 3 {
		for _, i := range r.Perm(len(books)) {
			for _, c := range calls() {
				a := questions[i]
				a.bill = slices.Clone(a.bill)
				got, e := c.ask(with(books[i]), a)
				key, text := fmt.Sprint(c.name, i), fmt.Sprint(got, e)
				if round > 0 && first[key] != text {
					t.Errorf("%s of the book %d: %s, and then %s", c.name, i, first[key], text)
				}
				first[key] = text
			}
		}
	}
	empty := brief(600)
	empty.Town.Barred = []api.Span{}
	for _, c := range calls() {
		one, e := c.ask(brief(600), asked{bill: []int{0}})
		two, f := c.ask(empty, asked{bill: []int{0}})
		if one != two || e != api.OK || f != api.OK {
			t.Errorf("%s with nil lists and with empty ones: %s, %d; %s, %d", c.name, one, e, two, f)
		}
		for _, x := range []api.BillBook{example(films([]api.BillFilm{}...)), example(made(0, []api.ReelReel{}...))} {
			if got, e := c.ask(x, asked{}); got != c.zero || e != api.ErrBill {
				t.Errorf("%s of a book with an empty list: %s, %d", c.name, got, e)
			}
		}
	}
}

package relay_test

import (
	"fmt"
	"math"
	"math/rand/v2"
	"slices"
	"testing"

	"bioscope/api"
	"bioscope/relay"
)

func span(low, high int) api.Span { return api.Span{Low: low, High: high} }

// change is one of a book.
type change func(b *api.RelayBook)

// example is the book of the chapter's examples, with some changes.
func example(changes ...change) api.RelayBook {
	b := api.RelayBook{
		Film: api.ReelFilm{Turn: span(6, 8), Tear: span(1, 3), Spool: 2000},
		Go:   span(300, 400), Back: span(300, 300), Carry: 2,
	}
	return with(b, append([]change{feet(1000, 800, 600)}, changes...)...)
}

// with is a copy of a book after some changes.
func with(b api.RelayBook, changes ...change) api.RelayBook {
	b.Film.Reels = slices.Clone(b.Film.Reels)
	for _, c := range changes {
		c(&b)
	}
	return b
}

// feet lets the film have reels of so many feet that follow one another as they are listed.
func feet(n ...int) change {
	return func(b *api.RelayBook) {
		b.Film.Reels = nil
		for i, x := range n {
			b.Film.Reels = append(b.Film.Reels, api.ReelReel{First: span(4*i+1, 4*i+1), Last: span(4*i+4, 4*i+4), Feet: span(x, x)})
		}
	}
}

func turn(low, high int) change  { return func(b *api.RelayBook) { b.Film.Turn = span(low, high) } }
func tear(low, high int) change  { return func(b *api.RelayBook) { b.Film.Tear = span(low, high) } }
func shows(n int) change         { return func(b *api.RelayBook) { b.Shows = n } }
func there(low, high int) change { return func(b *api.RelayBook) { b.Go = span(low, high) } }
func back(low, high int) change  { return func(b *api.RelayBook) { b.Back = span(low, high) } }
func carry(n int) change         { return func(b *api.RelayBook) { b.Carry = n } }
func mixed(b *api.RelayBook)     { slices.Reverse(b.Film.Reels) }
func exact(b *api.RelayBook)     { b.Film.Turn, b.Film.Tear = span(10, 10), span(0, 0) }
func far(b *api.RelayBook)       { b.Go, b.Back = span(900, 1000), span(900, 900) }
func near(b *api.RelayBook)      { b.Go, b.Back = span(0, 0), span(0, 0) }
func scenes(i, first, last int) change {
	return func(b *api.RelayBook) {
		b.Film.Reels[i].First, b.Film.Reels[i].Last = span(first, first), span(last, last)
	}
}

// wrongBooks are books that are not valid, each for a reason of its own.
func wrongBooks() map[string]api.RelayBook {
	all := map[string]api.RelayBook{"nothing": {}, "nothing but a Carry": {Carry: 1}}
	for name, c := range map[string]change{
		"no reels": feet(), "seven reels": feet(1, 1, 1, 1, 1, 1, 1), "a reel of no feet": feet(1000, 0, 600), "a reel of 1201 feet": feet(1000, 800, 1201),
		"a Turn of 0": turn(0, 8), "a Turn of 21": turn(6, 21), "a Turn inverted": turn(8, 6), "a Tear below 0": tear(-1, 3), "a Tear of 51": tear(1, 51), "no Spool": func(b *api.RelayBook) { b.Film.Spool = 0 }, "a reel that ends before it begins": scenes(2, 12, 9), "a scene 100": scenes(2, 9, 100),
		"a reel that does not follow": scenes(1, 20, 24), "two first reels": scenes(1, 1, 4), "a last reel that does not follow": scenes(2, 10, 12),
		"Shows of 999": shows(999), "Shows below 0": shows(-1), "the most Shows": shows(math.MaxInt), "the least Shows": shows(math.MinInt),
		"a Go of 3601": there(300, 3601), "a Go below 0": there(-1, 400), "a Go inverted": there(400, 300), "a Go out of 3600": there(3601, 3601), "a Go before 0": there(-2, -1), "all Go": there(math.MinInt, math.MaxInt), "a Go inverted by far": there(math.MaxInt, math.MinInt),
		"a Back of 3601": back(300, 3601), "a Back below 0": back(-1, 300), "a Back inverted": back(301, 300), "a Back out of 3600": back(3601, 3601), "a Back before 0": back(-2, -1), "all Back": back(math.MinInt, math.MaxInt), "a Back inverted by far": back(math.MaxInt, math.MinInt),
		"a Carry of 0": carry(0), "a Carry of 7": carry(7), "a Carry below 0": carry(-1), "the most Carry": carry(math.MaxInt), "the least Carry": carry(math.MinInt),
	} {
		all[name] = example(c)
	}
	return all
}

// P8.1: what is just valid.
func TestCheckLimits(t *testing.T) {
	for i, x := range []api.RelayBook{
		example(), example(mixed), example(feet(1)), example(feet(1200, 1200, 1200, 1200, 1200, 1200)), example(turn(1, 20)), example(tear(0, 50)), example(scenes(1, 4, 8)), example(scenes(1, 5, 9)),
		example(shows(0)), example(shows(998)), example(there(0, 0)), example(there(0, 3600)), example(there(3600, 3600)), example(back(0, 0)), example(back(0, 3600)), example(back(3600, 3600)), example(near), example(carry(1)), example(carry(6)), example(carry(6), feet(5)),
		// more than one order
		example(feet(3, 4), scenes(0, 1, 1), scenes(1, 1, 1)),
	} {
		if e := relay.Check(x); e != api.OK {
			t.Errorf("Check of the book %d: %d", i, e)
		}
	}
}

// asked is what the functions are asked, each one as much of it as it takes.
type asked struct {
	plan  []int
	start int
}

// call is a function that can be asked, with its results as a text, and those that it has with an error; and what it takes besides a book.
type call struct {
	name, zero    string
	plans, starts bool
	ask           func(b api.RelayBook, a asked) (string, api.Errno)
}

// calls are all functions but Check.
func calls() []call {
	text := func(x any, e api.Errno) (string, api.Errno) { return fmt.Sprint(x), e }
	return []call{
		{"IsPlan", "false", false, false, func(b api.RelayBook, a asked) (string, api.Errno) { return text(relay.IsPlan(b, a.plan)) }},
		{"There", "[]", true, false, func(b api.RelayBook, a asked) (string, api.Errno) { return text(relay.There(b, a.plan)) }},
		{"Starts", "[0 0]", true, false, func(b api.RelayBook, a asked) (string, api.Errno) {
			surely, perhaps, e := relay.Starts(b, a.plan)
			return text([]int{surely, perhaps}, e)
		}},
		{"Over", "{0 0}", true, true, func(b api.RelayBook, a asked) (string, api.Errno) { return text(relay.Over(b, a.plan, a.start)) }},
		{"Best", "[]", false, false, func(b api.RelayBook, a asked) (string, api.Errno) { return text(relay.Best(b)) }},
		{"Few", "[]", false, true, func(b api.RelayBook, a asked) (string, api.Errno) { return text(relay.Few(b, a.start)) }},
		{"Carry", "0", false, true, func(b api.RelayBook, a asked) (string, api.Errno) { return text(relay.Carry(b, a.start)) }},
	}
}

// P8.1: Check, and that all functions return its error first.
func TestCheck(t *testing.T) {
	for name, x := range wrongBooks() {
		if e := relay.Check(x); e != api.ErrRelay {
			t.Errorf("Check of a book with %s: %d", name, e)
		}
		for _, c := range calls() {
			for _, a := range []asked{{[]int{1, 2}, 2000}, {[]int{0}, -1}, {}} {
				if got, e := c.ask(x, a); got != c.zero || e != api.ErrRelay {
					t.Errorf("%s of a book with %s: %s, %d", c.name, name, got, e)
				}
			}
		}
	}
}

// notPlans are trips that are no plans of the examples' book, each for a reason of its own.
func notPlans() map[string][]int {
	return map[string][]int{
		"none": nil, "too few": {1, 1}, "a single one": {2}, "too many": {1, 1, 1, 1}, "one too great in the end": {2, 2}, "one too great at once": {3}, "far too great": {math.MaxInt}, "one of nothing": {0, 1, 2}, "one of nothing in the end": {1, 2, 0}, "one of nothing between": {1, 0, 2}, "one of less than nothing": {-1, 2, 2}, "one of far less": {2, math.MinInt}, "the right number in all": {2, 2, -1}, "more than there can be": {math.MaxInt, math.MaxInt, 5}, "a great one behind the last": {1, 2, 3}, "many": slices.Repeat([]int{1}, 1000),
	}
}

// P8.1 to P8.7: what cannot be asked.
func TestWrongQuestions(t *testing.T) {
	right := asked{[]int{1, 2}, 2000}
	for _, c := range calls() {
		var wrong []asked
		if c.starts {
			for _, start := range []int{-1, 100000, math.MaxInt, math.MinInt} {
				wrong = append(wrong, asked{right.plan, start})
			}
		}
		if c.plans {
			for _, l := range notPlans() {
				wrong = append(wrong, asked{l, right.start}, asked{l, -1})
			}
		}
		if _, e := c.ask(example(), right); e != api.OK {
			t.Errorf("%s: %d", c.name, e)
		}
		for _, a := range wrong {
			if got, e := c.ask(example(), a); got != c.zero || e != api.ErrRelayAsk {
				t.Errorf("%s asked %v: %s, %d", c.name, a, got, e)
			}
		}
	}
}

// some is a number that is not greater than most, or any other one.
func some(r *rand.Rand, most int) int {
	odd := []int{math.MinInt, math.MinInt + 1, math.MinInt32, -1000, -1, 0, 6, 7, 998, 999, 3600, 3601, 99999, 100000, math.MaxInt32, math.MaxInt - 1, math.MaxInt}
	if r.IntN(15) == 0 {
		return odd[r.IntN(len(odd))]
	}
	return r.IntN(most + 1)
}

// anyBook is that of the examples with a few numbers that can be any at all.
func anyBook(r *rand.Rand) api.RelayBook {
	return example(func(b *api.RelayBook) {
		if r.IntN(4) == 0 {
			feet(slices.Repeat([]int{1 + r.IntN(1200)}, r.IntN(8))...)(b)
		}
		f := &b.Film
		all := []*int{&b.Shows, &b.Carry, &b.Go.Low, &b.Go.High, &b.Back.Low, &b.Back.High, &f.Turn.Low, &f.Turn.High, &f.Tear.Low, &f.Tear.High, &f.Spool}
		for i := range f.Reels {
			x := &f.Reels[i]
			all = append(all, &x.First.Low, &x.First.High, &x.Last.Low, &x.Last.High, &x.Feet.Low, &x.Feet.High)
		}
		for _, n := range all {
			if r.IntN(60) == 0 {
				*n = some(r, 1+r.IntN(20))
			}
		}
	})
}

// P1: no function panics or goes on for ever, and with an error all else is zero.
func TestAnyArguments(t *testing.T) {
	r := rand.New(rand.NewPCG(81, 1))
	seen := map[string]bool{}
	for range 8000 {
		x, a := anyBook(r), asked{start: some(r, 5000)}
		for rest := len(x.Film.Reels); rest > 0; rest -= a.plan[len(a.plan)-1] {
			a.plan = append(a.plan, some(r, 3))
			if a.plan[len(a.plan)-1] < 1 {
				break
			}
		}
		valid := relay.Check(x)
		for _, c := range calls() {
			got, e := c.ask(x, a)
			seen[fmt.Sprint(c.name, e)] = true
			if e != api.OK && got != c.zero || valid != api.OK && e != valid || valid == api.OK && e == api.ErrRelay {
				t.Fatalf("%s of %v, %v: %s, %d", c.name, x, a, got, e)
			}
		}
	}
	for _, c := range calls() {
		want := []api.Errno{api.OK, api.ErrRelay}
		if c.plans || c.starts {
			want = append(want, api.ErrRelayAsk)
		}
		if c.name == "Few" || c.name == "Carry" {
			want = append(want, api.ErrNone)
		}
		for _, e := range want {
			if !seen[fmt.Sprint(c.name, e)] {
				t.Errorf("there was no %s with %d", c.name, e)
			}
		}
	}
}

// P1: what is asked may be as long as it likes.
func TestLongArguments(t *testing.T) {
	for _, long := range [][]int{make([]int, 1<<20), slices.Repeat([]int{1}, 1<<20), slices.Repeat([]int{math.MaxInt}, 1<<20)} {
		for _, c := range calls() {
			want := api.OK
			if c.plans {
				want = api.ErrRelayAsk
			}
			if got, e := c.ask(example(), asked{long, 2000}); got == "true" || e != want {
				t.Errorf("%s with a long list: %s, %d", c.name, got, e)
			}
		}
	}
}

// P2: the same arguments have the same result, whatever was called before, and in whatever memory they are; also R3, that a nil list is like an empty one.
func TestSameResults(t *testing.T) {
	r := rand.New(rand.NewPCG(82, 1))
	var books []api.RelayBook
	var questions []asked
	for range 100 {
		x := someBook(r)
		books = append(books, x)
		questions = append(questions, asked{somePlan(r, x), r.IntN(6000)})
	}
	first := map[string]string{}
	for round := range 3 {
		for _, i := range r.Perm(len(books)) {
			for _, c := range calls() {
				a := questions[i]
				a.plan = slices.Clone(a.plan)
				got, e := c.ask(with(books[i]), a)
				key, text := fmt.Sprint(c.name, i), fmt.Sprint(got, e)
				if round > 0 && first[key] != text {
					t.Errorf("%s of the book %d: %s, and then %s", c.name, i, first[key], text)
				}
				first[key] = text
			}
		}
	}
	empty := example(func(b *api.RelayBook) { b.Film.Reels = []api.ReelReel{} })
	for _, c := range calls() {
		one, e := c.ask(example(), asked{})
		two, f := c.ask(example(), asked{plan: []int{}})
		if one != two || e != f {
			t.Errorf("%s with a nil list and with an empty one: %s, %d; %s, %d", c.name, one, e, two, f)
		}
		if got, e := c.ask(empty, asked{}); got != c.zero || e != api.ErrRelay {
			t.Errorf("%s of a book with an empty list: %s, %d", c.name, got, e)
		}
	}
}

package till_test

import (
	"fmt"
	"math"
	"math/rand/v2"
	"slices"
	"testing"

	"bioscope/api"
	"bioscope/till"
)

func span(low, high int) api.Span { return api.Span{Low: low, High: high} }

// change is one of a box.
type change func(b *api.TillBox)

// example is the box of the chapter's examples, with some changes.
func example(changes ...change) api.TillBox {
	return with(api.TillBox{
		Rolls: []api.TillRoll{{Price: 10, First: span(100, 100), End: span(130, 133)}, {Price: 25, First: span(40, 42), End: span(60, 60)}},
		Free:  []api.Span{span(0, 2), span(0, 0)},
		Count: 760, Err: 5, Duty: 10, Share: 50, Guarantee: 300,
	}, changes...)
}

// with is a copy of a box after some changes.
func with(b api.TillBox, changes ...change) api.TillBox {
	b.Rolls, b.Free = slices.Clone(b.Rolls), slices.Clone(b.Free)
	for _, c := range changes {
		c(&b)
	}
	return b
}

func count(n int) change     { return func(b *api.TillBox) { b.Count = n } }
func wrong(n int) change     { return func(b *api.TillBox) { b.Err = n } }
func duty(n int) change      { return func(b *api.TillBox) { b.Duty = n } }
func share(n int) change     { return func(b *api.TillBox) { b.Share = n } }
func guarantee(n int) change { return func(b *api.TillBox) { b.Guarantee = n } }
func price(roll, n int) change {
	return func(b *api.TillBox) { b.Rolls[roll].Price = n }
}
func first(roll, low, high int) change {
	return func(b *api.TillBox) { b.Rolls[roll].First = span(low, high) }
}
func end(roll, low, high int) change {
	return func(b *api.TillBox) { b.Rolls[roll].End = span(low, high) }
}
func free(roll, low, high int) change {
	return func(b *api.TillBox) { b.Free[roll] = span(low, high) }
}

// sells lets a roll be one of which from low to high tickets are sold.
func sells(roll, price, low, high int) change {
	return func(b *api.TillBox) {
		b.Rolls[roll], b.Free[roll] = api.TillRoll{Price: price, End: span(low, high)}, span(0, 0)
	}
}

// rolls lets the box have so many rolls, each like the first one.
func rolls(n int) change {
	return func(b *api.TillBox) {
		b.Rolls, b.Free = slices.Repeat(b.Rolls[:1], n), slices.Repeat(b.Free[:1], n)
	}
}

// none lets more tickets be free than are gone.
func none(b *api.TillBox) { free(0, 40, 50)(b) }

// wrongBoxes are boxes that are not valid, each for a reason of its own.
func wrongBoxes() map[string]api.TillBox {
	all := map[string]api.TillBox{"nothing": {}}
	for name, c := range map[string]change{
		"no rolls": rolls(0), "five rolls": rolls(5), "very many rolls": rolls(1 << 16),
		"a Free too few": func(b *api.TillBox) { b.Free = b.Free[:1] }, "a Free too many": func(b *api.TillBox) { b.Free = append(b.Free, span(0, 0)) }, "no Free": func(b *api.TillBox) { b.Free = nil },
		"a Price of 0": price(0, 0), "a Price of 51": price(1, 51), "a Price below 0": price(1, -1), "the most Price": price(0, math.MaxInt), "the least Price": price(1, math.MinInt),
		"a First below 0": first(0, -1, 10), "a First of 301": first(1, 290, 301), "a First inverted": first(0, 10, 9), "a First 16 apart": first(0, 84, 100), "all First": first(1, math.MinInt, math.MaxInt), "a First inverted by far": first(0, math.MaxInt, math.MinInt), "the most First": first(0, math.MaxInt, math.MaxInt), "the least First": first(0, math.MinInt, math.MinInt),
		"an End below 0": func(b *api.TillBox) { first(0, 0, 0)(b); end(0, -1, 10)(b) }, "an End of 301": end(1, 290, 301), "an End inverted": end(0, 131, 130), "an End 16 apart": end(0, 130, 146), "all End": end(1, math.MinInt, math.MaxInt), "an End inverted by far": end(0, math.MaxInt, math.MinInt), "the most End": end(1, math.MaxInt, math.MaxInt),
		"a First behind the End": first(0, 134, 134), "another First behind the End": first(1, 61, 70),
		"a Free below 0": free(0, -1, 1), "a Free of 51": free(1, 40, 51), "a Free inverted": free(0, 2, 1), "a Free 16 apart": free(1, 0, 16), "all Free": free(0, math.MinInt, math.MaxInt), "a Free inverted by far": free(1, math.MaxInt, math.MinInt), "the most Free": free(1, math.MaxInt, math.MaxInt),
		"a Count below 0": count(-1), "a Count of 60001": count(60001), "the most Count": count(math.MaxInt), "the least Count": count(math.MinInt),
		"an Err below 0": wrong(-1), "an Err of 201": wrong(201), "the most Err": wrong(math.MaxInt), "the least Err": wrong(math.MinInt),
		"a Duty below 0": duty(-1), "a Duty of 101": duty(101), "the most Duty": duty(math.MaxInt),
		"a Share below 0": share(-1), "a Share of 101": share(101), "the least Share": share(math.MinInt),
		"a Guarantee below 0": guarantee(-1), "a Guarantee of 60001": guarantee(60001), "the most Guarantee": guarantee(math.MaxInt),
	} {
		all[name] = example(c)
	}
	return all
}

// P9.1: what is just valid.
func TestCheckLimits(t *testing.T) {
	for i, x := range []api.TillBox{
		example(), example(rolls(1)), example(rolls(4)), example(price(0, 1)), example(price(1, 50)),
		example(first(0, 0, 15)), example(first(0, 0, 0)), example(first(0, 85, 100)), example(end(0, 285, 300)), example(end(0, 130, 145)), example(end(1, 300, 300)), example(first(0, 285, 300), end(0, 285, 300)), example(first(1, 0, 0), end(1, 0, 0)), example(first(1, 0, 15), end(1, 0, 15)),
		// the first number of the next ticket in the beginning is just the last one of the end
		example(first(0, 133, 148)), example(first(1, 60, 60)), example(first(1, 60, 75)),
		example(free(0, 0, 15)), example(free(0, 35, 50)), example(free(1, 50, 50)), example(none),
		example(count(0)), example(count(60000)), example(wrong(0)), example(wrong(200)), example(duty(0)), example(duty(100)), example(share(0)), example(share(100)), example(guarantee(0)), example(guarantee(60000)),
	} {
		if e := till.Check(x); e != api.OK {
			t.Errorf("Check of the box %d: %d", i, e)
		}
	}
}

// asked is what the functions are asked, each one as much of it as it takes.
type asked struct {
	list       []int
	roll, sold int
}

// call is a function that can be asked, with its results as a text, and those that it has with an error; whether it takes a roll; and what it returns if there is no truth.
type call struct {
	name, zero string
	rolls      bool
	not        api.Errno
	ask        func(b api.TillBox, a asked) (string, api.Errno)
}

// calls are all functions but Check.
func calls() []call {
	text := func(x any, e api.Errno) (string, api.Errno) { return fmt.Sprint(x), e }
	return []call{
		{"IsTruth", "false", false, api.OK, func(b api.TillBox, a asked) (string, api.Errno) { return text(till.IsTruth(b, a.list)) }},
		{"Many", "0", false, api.OK, func(b api.TillBox, a asked) (string, api.Errno) { return text(till.Many(b)) }},
		{"Sold", "{0 0}", true, api.ErrTillNot, func(b api.TillBox, a asked) (string, api.Errno) { return text(till.Sold(b, a.roll)) }},
		{"Can", "false", true, api.ErrTillNot, func(b api.TillBox, a asked) (string, api.Errno) { return text(till.Can(b, a.roll, a.sold)) }},
		{"Takings", "{0 0}", false, api.ErrTillNot, func(b api.TillBox, a asked) (string, api.Errno) { return text(till.Takings(b)) }},
		{"Hire", "{0 0}", false, api.ErrTillNot, func(b api.TillBox, a asked) (string, api.Errno) { return text(till.Hire(b)) }},
		{"Left", "{0 0}", false, api.ErrTillNot, func(b api.TillBox, a asked) (string, api.Errno) { return text(till.Left(b)) }},
		{"Wrong", "0", false, api.ErrNone, func(b api.TillBox, a asked) (string, api.Errno) { return text(till.Wrong(b)) }},
		{"Ask", "0", false, api.ErrTillNot, func(b api.TillBox, a asked) (string, api.Errno) { return text(till.Ask(b)) }},
	}
}

// P9.1: Check, and that all functions return its error first.
func TestCheck(t *testing.T) {
	for name, x := range wrongBoxes() {
		if e := till.Check(x); e != api.ErrTill {
			t.Errorf("Check of a box with %s: %d", name, e)
		}
		for _, c := range calls() {
			for _, a := range []asked{{[]int{31, 18}, 0, 31}, {[]int{1}, -1, -1}, {nil, 7, 7}, {}} {
				if got, e := c.ask(x, a); got != c.zero || e != api.ErrTill {
					t.Errorf("%s of a box with %s: %s, %d", c.name, name, got, e)
				}
			}
		}
	}
}

// P9.2: what cannot be asked, also if there is no truth.
func TestWrongQuestions(t *testing.T) {
	for _, c := range calls() {
		for _, roll := range []int{-1, 2, 3, 4, math.MaxInt, math.MinInt} {
			for _, b := range []api.TillBox{example(), example(count(1400)), example(none)} {
				got, e := c.ask(b, asked{roll: roll, sold: 31})
				if c.rolls && (got != c.zero || e != api.ErrTillAsk) || !c.rolls && e == api.ErrTillAsk {
					t.Errorf("%s of the roll %d: %s, %d", c.name, roll, got, e)
				}
			}
		}
		for roll := range 2 {
			if _, e := c.ask(example(), asked{roll: roll}); e != api.OK {
				t.Errorf("%s of the roll %d: %d", c.name, roll, e)
			}
		}
	}
}

// P9.1 to P9.5: what is told if there is no truth.
func TestNoTruth(t *testing.T) {
	for name, b := range map[string]api.TillBox{
		"more free tickets than are gone": example(none), "more free tickets of the last roll": example(free(1, 21, 30)), "as little money": example(none, count(0)), "less free money": example(none, count(450)), "too much money": example(count(1400)), "too little money": example(count(0)), "too much by an error": example(count(1031)), "too little by an error": example(count(529)), "much money": example(count(60000)), "an amount between": example(rolls(1), price(0, 50), wrong(0), count(1501)),
	} {
		for _, c := range calls() {
			not := c.not
			if name == "an amount between" && c.name == "Wrong" {
				not = api.OK
				c.zero = "1"
			}
			for _, a := range []asked{{[]int{31, 18}, 0, 31}, {[]int{0, 18}, 0, 0}, {nil, 0, -1}} {
				if got, e := c.ask(b, a); got != c.zero || e != not {
					t.Errorf("%s with %s: %s, %d", c.name, name, got, e)
				}
			}
		}
	}
}

// some is a number that is not greater than most, or any other one.
func some(r *rand.Rand, most int) int {
	odd := []int{math.MinInt, math.MinInt + 1, math.MinInt32, -1000, -1, 0, 1, 15, 16, 50, 51, 100, 101, 200, 201, 300, 301, 60000, 60001, math.MaxInt32, math.MaxInt - 1, math.MaxInt}
	if r.IntN(15) == 0 {
		return odd[r.IntN(len(odd))]
	}
	return r.IntN(most + 1)
}

// anyBox is that of the examples with a few numbers that can be any at all.
func anyBox(r *rand.Rand) api.TillBox {
	return example(func(b *api.TillBox) {
		if r.IntN(4) == 0 {
			rolls(r.IntN(6))(b)
		}
		all := []*int{&b.Count, &b.Err, &b.Duty, &b.Share, &b.Guarantee}
		for i := range b.Rolls {
			x, free := &b.Rolls[i], &b.Free[i]
			all = append(all, &x.Price, &x.First.Low, &x.First.High, &x.End.Low, &x.End.High, &free.Low, &free.High)
		}
		if r.IntN(30) == 0 {
			b.Free = append(b.Free, span(0, 0))
		}
		for _, n := range all {
			if r.IntN(60) == 0 {
				*n = some(r, 1+r.IntN(200))
			}
		}
	})
}

// P1: no function panics or goes on for ever, and with an error all else is zero.
func TestAnyArguments(t *testing.T) {
	r := rand.New(rand.NewPCG(91, 1))
	seen := map[string]bool{}
	for range 8000 {
		x, a := anyBox(r), asked{roll: some(r, 3), sold: some(r, 40)}
		for range x.Rolls {
			a.list = append(a.list, some(r, 40))
		}
		valid := till.Check(x)
		for _, c := range calls() {
			got, e := c.ask(x, a)
			seen[fmt.Sprint(c.name, e)] = true
			if e != api.OK && got != c.zero || valid != api.OK && e != valid || valid == api.OK && e == api.ErrTill {
				t.Fatalf("%s of %v, %v: %s, %d", c.name, x, a, got, e)
			}
		}
	}
	for _, c := range calls() {
		want := []api.Errno{api.OK, api.ErrTill, c.not}
		if c.rolls {
			want = append(want, api.ErrTillAsk)
		}
		if c.name == "Ask" {
			want = append(want, api.ErrNone)
		}
		for _, e := range want {
			if !seen[fmt.Sprint(c.name, e)] {
				t.Errorf("there was no %s with %d", c.name, e)
			}
		}
	}
}

// P1: what is asked may be as long as it likes, and the lists of a box, too.
func TestLongArguments(t *testing.T) {
	for _, long := range [][]int{make([]int, 1<<20), slices.Repeat([]int{31, 18}, 1<<20), slices.Repeat([]int{math.MaxInt}, 1<<20)} {
		if is, e := till.IsTruth(example(), long); is || e != api.OK {
			t.Errorf("IsTruth of a long list: %v, %d", is, e)
		}
	}
	long := example(func(b *api.TillBox) { b.Free = slices.Repeat(b.Free, 1<<20) })
	if e := till.Check(long); e != api.ErrTill {
		t.Errorf("Check of a box with many Free: %d", e)
	}
}

// P2: the same arguments have the same result, whatever was called before, and in whatever memory they are; also R3, that a nil list is like an empty one.
func TestSameResults(t *testing.T) {
	r := rand.New(rand.NewPCG(92, 1))
	var boxes []api.TillBox
	var questions []asked
	for range 100 {
		x, sold := evening(r)
		boxes = append(boxes, x)
		questions = append(questions, asked{sold, r.IntN(len(sold)), r.IntN(30)})
	}
	before := map[string]string{}
	for round := range 3 {
		for _, i := range r.Perm(len(boxes)) {
			for _, c := range calls() {
				a := questions[i]
				a.list = slices.Clone(a.list)
				got, e := c.ask(with(boxes[i]), a)
				key, text := fmt.Sprint(c.name, i), fmt.Sprint(got, e)
				if round > 0 && before[key] != text {
					t.Errorf("%s of the box %d: %s, and then %s", c.name, i, before[key], text)
				}
				before[key] = text
			}
		}
	}
	empty := api.TillBox{Rolls: []api.TillRoll{}, Free: []api.Span{}}
	for _, c := range calls() {
		one, e := c.ask(example(), asked{})
		two, f := c.ask(example(), asked{list: []int{}})
		if one != two || e != f {
			t.Errorf("%s of a nil list: %s, %d; of an empty one: %s, %d", c.name, one, e, two, f)
		}
		one, e = c.ask(api.TillBox{}, asked{})
		two, f = c.ask(empty, asked{})
		if one != two || e != f {
			t.Errorf("%s of a box of nil lists: %s, %d; of empty ones: %s, %d", c.name, one, e, two, f)
		}
	}
}

// P9.6: arguments are only read, what lies behind a list among them.
func TestArgumentsAreRead(t *testing.T) {
	for _, x := range []api.TillBox{example(), example(rolls(4), price(1, 7), price(2, 1)), example(none)} {
		many := len(x.Rolls)
		x.Rolls = append(x.Rolls, api.TillRoll{Price: 77})[:many]
		x.Free = append(x.Free, span(77, 78))[:many]
		a := asked{list: append([]int{31, 18}, 77)[:2], sold: 31}
		old := with(x, func(b *api.TillBox) {
			b.Rolls, b.Free = slices.Clone(x.Rolls[:many+1]), slices.Clone(x.Free[:many+1])
		})
		for _, c := range append(calls(), call{name: "Check", ask: func(b api.TillBox, a asked) (string, api.Errno) { return "", till.Check(b) }}) {
			c.ask(x, a)
			if !slices.Equal(x.Rolls[:many+1], old.Rolls) || !slices.Equal(x.Free[:many+1], old.Free) || !slices.Equal(a.list[:3], []int{31, 18, 77}) {
				t.Errorf("%s changes its arguments: %v, %v", c.name, x, a)
			}
		}
	}
}

// right ends the test if there is an error.
func right(t *testing.T, name string, e api.Errno) {
	t.Helper()
	if e != api.OK {
		t.Fatalf("%s: %d", name, e)
	}
}

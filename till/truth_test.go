package till_test

import (
	"fmt"
	"math/rand/v2"
	"slices"
	"testing"

	"bioscope/api"
	"bioscope/till"
)

func within(r *rand.Rand, s api.Span) int { return s.Low + r.IntN(s.High-s.Low+1) }

// around is a span in which a number lies, from 0 to most, no wider than wide.
func around(r *rand.Rand, n, most, wide int) api.Span {
	low := max(0, n-r.IntN(wide+1))
	return span(low, min(most, low+wide, n+r.IntN(wide+1)))
}

// eveningOf is what truly happened at the pay box, with so many rolls, each of no more numbers than wide tells, as the box knows it; and how many tickets were sold of each.
func eveningOf(r *rand.Rand, many, wide int) (b api.TillBox, sold []int) {
	b.Err, b.Duty, b.Share = r.IntN(12), r.IntN(101), r.IntN(101)
	coins := 0
	for range many {
		x := api.TillRoll{Price: 1 + r.IntN(50)}
		if r.IntN(3) == 0 {
			x.Price = 1 + r.IntN(4)
		}
		first, guests := r.IntN(200), r.IntN(60)
		next, given, paid := first, 0, 0
		for range guests {
			next++
			if r.IntN(8) == 0 && given < 50 {
				given++
				continue
			}
			paid++
			coins += x.Price
		}
		x.First, x.End = around(r, first, 300, wide), around(r, next, 300, wide)
		b.Rolls, b.Free, sold = append(b.Rolls, x), append(b.Free, around(r, given, 50, wide)), append(sold, paid)
	}
	b.Count = max(0, coins-b.Err+r.IntN(2*b.Err+1))
	b.Guarantee = r.IntN(coins + 1)
	return b, sold
}

func evening(r *rand.Rand) (b api.TillBox, sold []int) { return eveningOf(r, 1+r.IntN(4), r.IntN(5)) }

// someBox is one of which nobody knows if there is a truth.
func someBox(r *rand.Rand) api.TillBox {
	b, _ := evening(r)
	switch r.IntN(6) {
	case 0:
		b.Count = min(60000, max(0, b.Count+r.IntN(500)-250))
	case 1:
		b.Err = 0
	case 2:
		b.Err = r.IntN(201)
	case 3:
		i := r.IntN(len(b.Free))
		b.Free[i] = around(r, r.IntN(51), 50, 3)
	case 4:
		i := r.IntN(len(b.Rolls))
		x := &b.Rolls[i]
		if first := around(r, x.End.High, 300, 4); first.Low <= x.End.High {
			x.First = first
		}
	}
	return b
}

// sellable are the numbers that can be sold of a roll, each one that is known tried with each other one.
func sellable(x api.TillRoll, free api.Span) (numbers []int) {
	for first := x.First.Low; first <= x.First.High; first++ {
		for end := x.End.Low; end <= x.End.High; end++ {
			for given := free.Low; given <= free.High; given++ {
				if end >= first && end-first >= given {
					numbers = append(numbers, end-first-given)
				}
			}
		}
	}
	slices.Sort(numbers)
	return slices.Compact(numbers)
}

// sales calls see with all numbers that can be sold of all rolls, and what they bring.
func sales(b api.TillBox, see func(sold []int, takings int)) {
	var numbers [][]int
	for i, x := range b.Rolls {
		numbers = append(numbers, sellable(x, b.Free[i]))
	}
	sold := make([]int, len(b.Rolls))
	var try func(roll, takings int)
	try = func(roll, takings int) {
		if roll == len(sold) {
			see(sold, takings)
			return
		}
		for _, n := range numbers[roll] {
			sold[roll] = n
			try(roll+1, takings+n*b.Rolls[roll].Price)
		}
	}
	try(0, 0)
}

// part is the greatest number that is no greater than some hundredths.
func part(hundredths, of int) int {
	n := hundredths * of / 100
	for 100*n > hundredths*of {
		n--
	}
	for 100*(n+1) <= hundredths*of {
		n++
	}
	return n
}

// becomes is what becomes of takings.
func becomes(b api.TillBox, takings int) (duty, hire, left int) {
	duty = part(b.Duty, takings)
	hire = part(b.Share, takings-duty)
	if hire < b.Guarantee {
		hire = b.Guarantee
	}
	return duty, hire, takings - duty - hire
}

// facts are what all truths tell.
type facts struct {
	many, wrong         int
	with                [4][301]int
	takings, hire, left api.Span
}

// more is a span in which a number lies besides.
func more(s api.Span, n int) api.Span { return span(min(s.Low, n), max(s.High, n)) }

func factsOf(b api.TillBox) facts {
	nothing := span(1<<62, -1<<62)
	f := facts{wrong: 201, takings: nothing, hire: nothing, left: nothing}
	sales(b, func(sold []int, takings int) {
		by := max(takings-b.Count, b.Count-takings)
		f.wrong = min(f.wrong, by)
		if by > b.Err {
			return
		}
		f.many++
		for roll, n := range sold {
			f.with[roll][n]++
		}
		if takings < f.takings.Low || takings > f.takings.High {
			_, hire, left := becomes(b, takings)
			f.takings, f.hire, f.left = more(f.takings, takings), more(f.hire, hire), more(f.left, left)
		}
	})
	return f
}

// sold is between what lies how many tickets of a roll are sold.
func (f facts) sold(roll int) api.Span {
	s := span(1<<62, -1<<62)
	for n, truths := range f.with[roll] {
		if truths > 0 {
			s = more(s, n)
		}
	}
	return s
}

// ask is the roll to look at.
func (f facts) ask(rolls int) (int, api.Errno) {
	switch f.many {
	case 0:
		return 0, api.ErrTillNot
	case 1:
		return 0, api.ErrNone
	}
	best := 0
	for roll := range rolls {
		if slices.Max(f.with[roll][:]) < slices.Max(f.with[best][:]) {
			best = roll
		}
	}
	return best, api.OK
}

// compare holds what the functions tell of a box against the facts.
func compare(t *testing.T, b api.TillBox, f facts) {
	t.Helper()
	same := func(name string, got, want any, e, wantError api.Errno) {
		t.Helper()
		if fmt.Sprint(got) != fmt.Sprint(want) || e != wantError {
			t.Fatalf("%s of %v: %v, %d, but it is %v, %d", name, b, got, e, want, wantError)
		}
	}
	right(t, "Check", till.Check(b))
	many, e := till.Many(b)
	same("Many", many, min(f.many, 1000000), e, api.OK)
	not := api.OK
	if f.many == 0 {
		not, f.takings, f.hire, f.left = api.ErrTillNot, api.Span{}, api.Span{}, api.Span{}
	}
	s, e := till.Takings(b)
	same("Takings", s, f.takings, e, not)
	s, e = till.Hire(b)
	same("Hire", s, f.hire, e, not)
	s, e = till.Left(b)
	same("Left", s, f.left, e, not)
	for roll := range b.Rolls {
		want := f.sold(roll)
		if f.many == 0 {
			want = api.Span{}
		}
		s, e := till.Sold(b, roll)
		same("Sold", s, want, e, not)
		for n := max(0, want.Low-2); n <= min(300, want.High+2); n++ {
			is, e := till.Can(b, roll, n)
			same("Can", is, f.with[roll][n] > 0, e, not)
		}
	}
	none := api.OK
	if f.wrong > 200 {
		none, f.wrong = api.ErrNone, 0
	}
	by, e := till.Wrong(b)
	same("Wrong", by, f.wrong, e, none)
	want, wantError := f.ask(len(b.Rolls))
	roll, e := till.Ask(b)
	same("Ask", roll, want, e, wantError)
}

// P9.1 to P9.5: all is as all truths tell that there are.
func TestAllTruths(t *testing.T) {
	r := rand.New(rand.NewPCG(93, 1))
	truths, asks, wrongs := map[int]int{}, map[int]int{}, map[bool]int{}
	for range 1500 {
		b := someBox(r)
		f := factsOf(b)
		compare(t, b, f)
		truths[min(f.many, 2)]++
		if roll, e := till.Ask(b); e == api.OK {
			asks[roll]++
		}
		wrongs[f.wrong > 0 && f.wrong <= 200]++
	}
	for n := range 3 {
		if truths[n] < 100 {
			t.Errorf("%d times there were so many truths: %d", truths[n], n)
		}
	}
	for roll := range 4 {
		if asks[roll] < 20 {
			t.Errorf("%d times the roll %d is to be looked at", asks[roll], roll)
		}
	}
	if wrongs[true] < 100 || wrongs[false] < 100 {
		t.Errorf("%d times the count must be wrong, %d times not", wrongs[true], wrongs[false])
	}
}

// P9.1: each list is a truth, or not, as all that can be sold tells.
func TestAllLists(t *testing.T) {
	r := rand.New(rand.NewPCG(94, 1))
	seen := map[bool]int{}
	for range 300 {
		b, sold := eveningOf(r, 1+r.IntN(3), r.IntN(3))
		truths := map[string]bool{}
		sales(b, func(sold []int, takings int) {
			truths[fmt.Sprint(sold)] = takings >= b.Count-b.Err && takings <= b.Count+b.Err
		})
		for range 100 {
			list := slices.Clone(sold)
			for i := range list {
				list[i] += r.IntN(7) - 3
			}
			want := truths[fmt.Sprint(list)]
			if is, e := till.IsTruth(b, list); is != want || e != api.OK {
				t.Fatalf("IsTruth of %v, %v: %v, %d", b, list, is, e)
			}
			seen[want]++
		}
	}
	if seen[true] < 1000 || seen[false] < 1000 {
		t.Errorf("%d lists were truths, %d not", seen[true], seen[false])
	}
}

// P9.1 to P9.5: also if as little is known as can be.
func TestWideBoxes(t *testing.T) {
	r := rand.New(rand.NewPCG(95, 1))
	for i := range 6 {
		b := example(wide(46, 46, 46, 46), duty(r.IntN(101)), share(r.IntN(101)), guarantee(r.IntN(3000)))
		for roll := range b.Rolls {
			b.Rolls[roll].Price = 1 + r.IntN(50)
			if i == 0 {
				b.Rolls[roll].Price = 50
			}
		}
		b.Count, b.Err = r.IntN(6000), 50+r.IntN(151)
		compare(t, b, factsOf(b))
	}
}

// P9.7, P9.8: what truly happened is as it is told.
func TestWhateverIsTrue(t *testing.T) {
	r := rand.New(rand.NewPCG(96, 1))
	less := 0
	for range 3000 {
		b, sold := evening(r)
		takings := 0
		for roll, n := range sold {
			takings += n * b.Rolls[roll].Price
			s, e := till.Sold(b, roll)
			right(t, "Sold", e)
			can, e := till.Can(b, roll, n)
			right(t, "Can", e)
			if !can || n < s.Low || n > s.High {
				t.Fatalf("of the roll %d of %v %d were sold, but %v, %v", roll, b, n, s, can)
			}
		}
		is, e := till.IsTruth(b, sold)
		right(t, "IsTruth", e)
		many, e := till.Many(b)
		right(t, "Many", e)
		if !is || many < 1 {
			t.Fatalf("%v of %v is no truth (%d)", sold, b, many)
		}
		_, hire, left := becomes(b, takings)
		for i, ask := range []func(api.TillBox) (api.Span, api.Errno){till.Takings, till.Hire, till.Left} {
			s, e := ask(b)
			right(t, "what becomes of takings", e)
			if n := [...]int{takings, hire, left}[i]; n < s.Low || n > s.High {
				t.Fatalf("%d: %v of %v, but it is %d", i, s, b, n)
			}
		}
		by, e := till.Wrong(b)
		right(t, "Wrong", e)
		if by > max(takings-b.Count, b.Count-takings) {
			t.Fatalf("Wrong of %v: %d, but it took in %d", b, by, takings)
		}
		if many, e := till.Many(with(b, wrong(by))); many == 0 || e != api.OK {
			t.Fatalf("Many of %v, wrong by %d: %d, %d", b, by, many, e)
		}
		if by > 0 {
			less++
			if many, e := till.Many(with(b, wrong(by-1))); many != 0 || e != api.OK {
				t.Fatalf("Many of %v, wrong by less than %d: %d, %d", b, by, many, e)
			}
		}
	}
	if less < 100 {
		t.Errorf("%d times the count must be wrong", less)
	}
}

// P9.9: what is known better leaves no more truths, and a greater Err no fewer.
func TestKnownBetter(t *testing.T) {
	r := rand.New(rand.NewPCG(97, 1))
	fewer, greater := 0, 0
	for range 2000 {
		b := someBox(r)
		many, e := till.Many(b)
		right(t, "Many", e)
		better := with(b)
		known := []*api.Span{}
		for i := range better.Rolls {
			x := &better.Rolls[i]
			known = append(known, &x.First, &x.End, &better.Free[i])
		}
		s := known[r.IntN(len(known))]
		s.Low = within(r, *s)
		s.High = within(r, *s)
		if till.Check(better) == api.OK {
			n, e := till.Many(better)
			right(t, "Many", e)
			if n > many {
				t.Fatalf("Many of %v: %d, of %v: %d", b, many, better, n)
			}
			if n < many {
				fewer++
			}
		}
		n, e := till.Many(with(b, wrong(b.Err+r.IntN(201-b.Err))))
		right(t, "Many", e)
		if n < many {
			t.Fatalf("Many of %v: %d, with a greater Err %d", b, many, n)
		}
		if n > many {
			greater++
		}
	}
	if fewer < 100 || greater < 100 {
		t.Errorf("%d times there were fewer truths, %d times more", fewer, greater)
	}
}

// P9.10: duty, what the exchange gets and what is left are together the takings, and with greater takings neither duty nor hire is less.
func TestTogether(t *testing.T) {
	r := rand.New(rand.NewPCG(98, 1))
	told := func(ask func(api.TillBox) (api.Span, api.Errno), b api.TillBox) int {
		s, e := ask(b)
		right(t, "what becomes of takings", e)
		if s.Low != s.High {
			t.Fatalf("%v of %v", s, b)
		}
		return s.Low
	}
	guaranteed := 0
	for range 300 {
		old, oldDuty, oldHire := 0, 0, 0
		b := simple(duty(r.IntN(101)), share(r.IntN(101)), guarantee(r.IntN(300)), wrong(0))
		cents := 1 + r.IntN(50)
		for n := r.IntN(5); n <= 300; n += 1 + r.IntN(60) {
			b := with(b, sells(0, cents, n, n), count(n*cents))
			takings, hire, left := told(till.Takings, b), told(till.Hire, b), told(till.Left, b)
			// With no share and no guarantee the duty alone is taken from the takings.
			paid := takings - told(till.Left, with(b, share(0), guarantee(0)))
			wantDuty, wantHire, wantLeft := becomes(b, n*cents)
			if takings != n*cents || paid+hire+left != takings || paid != wantDuty || hire != wantHire || left != wantLeft || hire < b.Guarantee {
				t.Fatalf("%v: %d, %d, %d, %d", b, takings, paid, hire, left)
			}
			if takings < old || paid < oldDuty || hire < oldHire {
				t.Fatalf("%v: %d, %d, %d after %d, %d, %d", b, takings, paid, hire, old, oldDuty, oldHire)
			}
			old, oldDuty, oldHire = takings, paid, hire
			if hire == b.Guarantee {
				guaranteed++
			}
		}
	}
	if guaranteed < 100 {
		t.Errorf("%d times the exchange gets its guarantee", guaranteed)
	}
}

// leaves returns how many truths are left at the worst, once it is known how many tickets of a roll were sold.
func leaves(t *testing.T, b api.TillBox, roll int) (worst int) {
	s, e := till.Sold(b, roll)
	right(t, "Sold", e)
	for n := s.Low; n <= s.High; n++ {
		many, e := till.Many(with(b, sells(roll, b.Rolls[roll].Price, n, n)))
		right(t, "Many", e)
		can, e := till.Can(b, roll, n)
		right(t, "Can", e)
		if can != (many > 0) {
			t.Fatalf("Can of %v, %d, %d: %v, but there are %d truths", b, roll, n, can, many)
		}
		worst = max(worst, many)
	}
	return worst
}

// P9.11: no other roll leaves fewer truths at the worst.
func TestTheRollToLookAt(t *testing.T) {
	r := rand.New(rand.NewPCG(99, 1))
	better := 0
	for range 500 {
		b := someBox(r)
		roll, e := till.Ask(b)
		if e != api.OK {
			continue
		}
		best := leaves(t, b, roll)
		for other := range b.Rolls {
			n := leaves(t, b, other)
			if n < best || n == best && other < roll {
				t.Fatalf("Ask of %v: %d leaves %d, but %d leaves %d", b, roll, best, other, n)
			}
			if n > best {
				better++
			}
		}
	}
	if better < 100 {
		t.Errorf("%d times another roll leaves more truths", better)
	}
}

package licence_test

import (
	"fmt"
	"math"
	"math/rand/v2"
	"slices"
	"testing"

	"bioscope/api"
	"bioscope/licence"
)

func span(low, high int) api.Span { return api.Span{Low: low, High: high} }

func kind(days, fee, notice int) api.LicenceKind {
	return api.LicenceKind{Days: days, Fee: fee, Notice: notice}
}

// papers are licences, told by their kinds and first days in turn.
func papers(n ...int) (l []api.LicencePaper) {
	for i := 0; i < len(n); i += 2 {
		l = append(l, api.LicencePaper{Kind: n[i], First: n[i+1]})
	}
	return l
}

// change is one of a town.
type change func(t *api.LicenceTown)

// example is the town of the chapter's examples, with some changes.
func example(changes ...change) api.LicenceTown {
	return with(api.LicenceTown{
		Kinds: []api.LicenceKind{kind(1, 5, 2), kind(7, 20, 10)},
		Pause: 1, Barred: []api.Span{span(105, 106)}, Forbidden: 8, Close: 1350, Held: papers(1, 100),
	}, changes...)
}

// bare is a town of these kinds, without licences, pauses and bars.
func bare(l ...api.LicenceKind) api.LicenceTown { return api.LicenceTown{Kinds: l} }

// fair is the days of the examples that are wanted.
func fair() []int { return []int{101, 108, 110, 112} }

// with is a copy of a town after some changes.
func with(t api.LicenceTown, changes ...change) api.LicenceTown {
	t.Kinds, t.Barred, t.Held = slices.Clone(t.Kinds), slices.Clone(t.Barred), slices.Clone(t.Held)
	for _, c := range changes {
		c(&t)
	}
	return t
}

func kinds(l ...api.LicenceKind) change { return func(t *api.LicenceTown) { t.Kinds = l } }

func daysOf(i, n int) change { return func(t *api.LicenceTown) { t.Kinds[i].Days = n } }

func fee(i, n int) change { return func(t *api.LicenceTown) { t.Kinds[i].Fee = n } }

func notice(i, n int) change { return func(t *api.LicenceTown) { t.Kinds[i].Notice = n } }

func pause(n int) change { return func(t *api.LicenceTown) { t.Pause = n } }

func barred(l ...api.Span) change { return func(t *api.LicenceTown) { t.Barred = l } }

func forbidden(films int) change { return func(t *api.LicenceTown) { t.Forbidden = films } }

func closes(minute int) change { return func(t *api.LicenceTown) { t.Close = minute } }

// held are licences that are held instead, told like papers.
func held(n ...int) change { return func(t *api.LicenceTown) { t.Held = papers(n...) } }

// wrongTowns are towns that are not valid, each for a reason of its own.
func wrongTowns() map[string]api.LicenceTown {
	all := map[string]api.LicenceTown{"nothing": {}}
	for name, c := range map[string]change{
		"no kinds": func(t *api.LicenceTown) { t.Kinds, t.Held = nil, nil }, "five kinds": kinds(kind(1, 0, 0), kind(7, 0, 0), kind(1, 0, 0), kind(1, 0, 0), kind(1, 0, 0)), "many kinds": kinds(slices.Repeat([]api.LicenceKind{kind(7, 1, 1)}, 1000)...),
		"no Days": daysOf(0, 0), "Days below 0": daysOf(1, -7), "Days above 30": daysOf(1, 31), "the most Days": daysOf(0, math.MaxInt), "the least Days": daysOf(1, math.MinInt),
		"a Fee below 0": fee(0, -1), "a Fee above 1000": fee(1, 1001), "the most Fee": fee(0, math.MaxInt), "the least Fee": fee(1, math.MinInt),
		"a Notice below 0": notice(0, -1), "a Notice above 30": notice(1, 31), "the most Notice": notice(0, math.MaxInt), "the least Notice": notice(1, math.MinInt),
		"a wrong last kind": kinds(kind(1, 5, 2), kind(7, 20, 10), kind(1, 0, 0), kind(0, 0, 0)),
		"a Pause below 0":   pause(-1), "a Pause above 20": pause(21), "the most Pause": pause(math.MaxInt), "the least Pause": pause(math.MinInt),
		"five Barred": barred(span(1, 1), span(3, 3), span(5, 5), span(7, 7), span(9, 9)), "many Barred": barred(make([]api.Span, 1000)...),
		"Barred inverted": barred(span(106, 105)), "Barred below 0": barred(span(-1, 5)), "Barred above 999": barred(span(5, 1000)), "Barred out of 999": barred(span(1000, 1000)), "Barred far below 0": barred(span(math.MinInt, 5)), "Barred far above 999": barred(span(5, math.MaxInt)), "all Barred": barred(span(math.MinInt, math.MaxInt)),
		"Barred that touch": barred(span(5, 6), span(6, 7)), "Barred that overlap": barred(span(5, 9), span(7, 12)), "Barred in no order": barred(span(20, 21), span(10, 11)), "Barred twice": barred(span(5, 5), span(5, 5)), "Barred within": barred(span(5, 20), span(10, 11)), "a last one Barred wrongly": barred(span(1, 2), span(4, 4), span(6, 9), span(9, 9)), "a second one Barred inverted": barred(span(5, 6), span(9, 8)),
		"Forbidden below 0": forbidden(-1), "Forbidden above 65535": forbidden(65536), "the most Forbidden": forbidden(math.MaxInt), "the least Forbidden": forbidden(math.MinInt),
		"Close below 0": closes(-1), "Close above 1439": closes(1440), "the most Close": closes(math.MaxInt), "the least Close": closes(math.MinInt),
		"five Held": held(0, 1, 0, 3, 0, 5, 0, 7, 0, 9), "many Held": func(t *api.LicenceTown) { t.Held = make([]api.LicencePaper, 1000) },
		"a kind below 0": held(-1, 100), "a kind too far": held(2, 100), "the last kind": held(math.MaxInt, 100), "the first kind": held(math.MinInt, 100),
		"a first day below 0": held(1, -1), "a first day above 999": held(0, 1000), "the most first day": held(0, math.MaxInt), "the least first day": held(1, math.MinInt), "a wrong day behind others": held(0, 5, 0, 1000), "a wrong kind behind others": held(0, 5, 2, 9),
		"Held without a pause": held(1, 100, 0, 107), "Held without a pause before": held(0, 99, 1, 100), "Held on one day": held(0, 98, 0, 98), "Held on days of another one": held(1, 100, 0, 103), "Held that overlap": held(1, 100, 1, 106), "Held without a pause in no order": held(0, 107, 1, 100), "a last one Held too soon": held(0, 50, 1, 100, 0, 10, 0, 51), "Held of the same days": held(1, 100, 1, 100), "a last one Held on days of the second": held(0, 50, 1, 100, 0, 103),
		"Held with too long a pause": func(t *api.LicenceTown) { t.Pause, t.Held = 3, papers(1, 100, 0, 109) }, "Held that touch twice": func(t *api.LicenceTown) { t.Pause, t.Held = 0, papers(0, 5, 0, 5) }, "Held behind 999": held(1, 995, 0, 999),
	} {
		all[name] = example(c)
	}
	return all
}

// P5.1: what is just valid.
func TestCheckLimits(t *testing.T) {
	for i, x := range []api.LicenceTown{
		example(), bare(kind(1, 0, 0)), bare(kind(30, 1000, 30)), example(kinds(kind(1, 5, 2), kind(7, 20, 10), kind(1, 0, 0), kind(30, 1000, 30))), bare(kind(1, 0, 0), kind(1, 0, 0)),
		example(pause(0)), example(pause(20)), example(forbidden(0)), example(forbidden(65535)), example(closes(0)), example(closes(1439)),
		example(barred()), example(barred(span(0, 999))), example(barred(span(0, 0), span(1, 1), span(2, 2), span(3, 999))), example(barred(span(999, 999))), example(barred(span(5, 6), span(7, 7))),
		example(held()), example(held(0, 0)), example(held(0, 999)), example(held(1, 999)), example(held(1, 100, 0, 108)), example(held(0, 108, 1, 100)), example(held(0, 98, 1, 100)), example(held(0, 110, 0, 98, 1, 100, 0, 108)), example(pause(0), held(1, 100, 0, 107)), example(pause(0), held(0, 99, 1, 100)), example(pause(20), held(1, 100, 0, 127)), example(pause(20), held(0, 127, 1, 100, 0, 79)), example(pause(0), held(0, 7, 0, 5, 0, 6, 0, 4)),
	} {
		if e := licence.Check(x); e != api.OK {
			t.Errorf("Check of the town %d: %d", i, e)
		}
	}
}

// asked is what the functions are asked, each one as much of it as it takes.
type asked struct {
	day, film, minute, money int
	wanted                   []int
	plan                     []api.LicencePaper
	span                     api.Span
}

// call is a function that can be asked, with its results as a text, and those that it has with an error.
type call struct {
	name, zero string
	ask        func(t api.LicenceTown, a asked) (string, api.Errno)
}

// calls are all functions but Check.
func calls() []call {
	text := func(x any, e api.Errno) (string, api.Errno) { return fmt.Sprint(x), e }
	return []call{
		{"Why", "0", func(t api.LicenceTown, a asked) (string, api.Errno) {
			return text(licence.Why(t, a.day, a.film, a.minute))
		}},
		{"Days", "[]", func(t api.LicenceTown, a asked) (string, api.Errno) { return text(licence.Days(t, a.span)) }},
		{"IsPlan", "false", func(t api.LicenceTown, a asked) (string, api.Errno) {
			return text(licence.IsPlan(t, a.day, a.plan))
		}},
		{"Lacking", "[]", func(t api.LicenceTown, a asked) (string, api.Errno) {
			return text(licence.Lacking(t, a.plan, a.wanted))
		}},
		{"Cheapest", "[]", func(t api.LicenceTown, a asked) (string, api.Errno) {
			return text(licence.Cheapest(t, a.day, a.wanted))
		}},
		{"Fee", "0", func(t api.LicenceTown, a asked) (string, api.Errno) { return text(licence.Fee(t, a.day, a.wanted)) }},
		{"Latest", "0", func(t api.LicenceTown, a asked) (string, api.Errno) { return text(licence.Latest(t, a.wanted)) }},
		{"Most", "[]", func(t api.LicenceTown, a asked) (string, api.Errno) {
			return text(licence.Most(t, a.day, a.wanted, a.money))
		}},
		{"Over", "0", func(t api.LicenceTown, a asked) (string, api.Errno) {
			return text(licence.Over(t, a.minute, a.span))
		}},
	}
}

// P5.1: Check, and that all functions return its error first.
func TestCheck(t *testing.T) {
	right := asked{95, 2, 1300, 20, fair(), papers(0, 108), span(98, 110)}
	wrong := asked{-1, 16, 1440, 8001, []int{5, 5}, papers(2, 1000), span(5, 4)}
	for name, x := range wrongTowns() {
		if e := licence.Check(x); e != api.ErrLicence {
			t.Errorf("Check of a town with %s: %d", name, e)
		}
		for _, c := range calls() {
			for _, a := range []asked{right, wrong, {}} {
				if got, e := c.ask(x, a); got != c.zero || e != api.ErrLicence {
					t.Errorf("%s of a town with %s: %s, %d", c.name, name, got, e)
				}
			}
		}
	}
}

// some is a number that is not greater than most, or any other one.
func some(r *rand.Rand, most int) int {
	odd := []int{math.MinInt, math.MinInt + 1, math.MinInt32, -1000, -1, 16, 21, 31, 999, 1000, 1001, 1439, 1440, 8000, 8001, 65536, math.MaxInt32, math.MaxInt - 1, math.MaxInt}
	if r.IntN(12) == 0 {
		return odd[r.IntN(len(odd))]
	}
	return r.IntN(most + 1)
}

// anyTown is one of any numbers at all, or one of the examples' with a few of them.
func anyTown(r *rand.Rand) (t api.LicenceTown) {
	if r.IntN(4) > 0 {
		return example(func(x *api.LicenceTown) {
			for _, n := range []*int{&x.Kinds[0].Days, &x.Kinds[0].Fee, &x.Kinds[1].Notice, &x.Pause, &x.Barred[0].Low, &x.Barred[0].High, &x.Forbidden, &x.Close, &x.Held[0].Kind, &x.Held[0].First} {
				if r.IntN(30) == 0 {
					*n = some(r, 110)
				}
			}
		})
	}
	t = api.LicenceTown{Pause: some(r, 20), Forbidden: some(r, 65535), Close: some(r, 1439)}
	for range r.IntN(6) {
		t.Kinds = append(t.Kinds, kind(some(r, 30), some(r, 1000), some(r, 30)))
	}
	for range r.IntN(3) {
		t.Barred = append(t.Barred, span(some(r, 999), some(r, 999)))
	}
	t.Held = anyPapers(r, 3)
	return t
}

// anyPapers are at most so many of any numbers at all, in the order of their first days if they have one.
func anyPapers(r *rand.Rand, most int) (l []api.LicencePaper) {
	for range r.IntN(most + 1) {
		l = append(l, api.LicencePaper{Kind: some(r, 1), First: 95 + some(r, 30)})
	}
	slices.SortFunc(l, func(one, other api.LicencePaper) int { return one.First - other.First })
	return l
}

// anyAsked is any question at all.
func anyAsked(r *rand.Rand) asked {
	low := some(r, 999)
	a := asked{day: some(r, 120), film: some(r, 15), minute: some(r, 1439), money: some(r, 60), plan: anyPapers(r, 9), span: span(low, low+some(r, 100))}
	for range r.IntN(10) {
		a.wanted = append(a.wanted, 100+some(r, 20))
	}
	if r.IntN(5) > 0 {
		slices.Sort(a.wanted)
		a.wanted = slices.Compact(a.wanted)
	}
	return a
}

// P1: no function panics or goes on for ever, and with an error all else is zero.
func TestAnyArguments(t *testing.T) {
	r := rand.New(rand.NewPCG(52, 1))
	seen := map[string]bool{}
	for range 8000 {
		x, a := anyTown(r), anyAsked(r)
		valid := licence.Check(x)
		for _, c := range calls() {
			got, e := c.ask(x, a)
			seen[fmt.Sprint(c.name, e)] = true
			if e != api.OK && got != c.zero || valid != api.OK && e != valid || valid == api.OK && e == api.ErrLicence {
				t.Fatalf("%s of %v, %v: %s, %d", c.name, x, a, got, e)
			}
		}
	}
	for _, c := range calls() {
		want := []api.Errno{api.OK, api.ErrLicence, api.ErrLicenceAsk}
		if slices.Contains([]string{"Cheapest", "Fee", "Latest"}, c.name) {
			want = append(want, api.ErrNone)
		}
		for _, e := range want {
			if !seen[fmt.Sprint(c.name, e)] {
				t.Errorf("there was no %s with %d", c.name, e)
			}
		}
	}
}

// P1: what is asked may be as long as it likes.
func TestLongArguments(t *testing.T) {
	plan := make([]api.LicencePaper, 1<<20)
	wanted := make([]int, 1<<20)
	for i := range plan {
		plan[i].First, wanted[i] = i%1000, i
	}
	free := bare(kind(1, 0, 0))
	for _, c := range calls() {
		want := api.OK
		if slices.Contains([]string{"Lacking", "Cheapest", "Fee", "Latest", "Most"}, c.name) {
			want = api.ErrLicenceAsk
		}
		if got, e := c.ask(free, asked{plan: plan, wanted: wanted}); got == "true" || e != want {
			t.Errorf("%s with long lists: %s, %d", c.name, got, e)
		}
	}
}

// P2: the same arguments have the same result, whatever was called before, and in whatever memory they are; also R3, that a nil list is like an empty one.
func TestSameResults(t *testing.T) {
	r := rand.New(rand.NewPCG(53, 1))
	var towns []api.LicenceTown
	var questions []asked
	for range 60 {
		x := large(r)
		towns = append(towns, x)
		questions = append(questions, asked{90, r.IntN(16), r.IntN(1440), r.IntN(900), someWanted(r, 100, 160), somePlan(r, x, 90), within(r, 0, 999)})
	}
	first := map[string]string{}
	for round := range 3 {
		for _, i := range r.Perm(len(towns)) {
			for _, c := range calls() {
				a := questions[i]
				a.wanted, a.plan = slices.Clone(a.wanted), slices.Clone(a.plan)
				got, e := c.ask(with(towns[i]), a)
				key, text := fmt.Sprint(c.name, i), fmt.Sprint(got, e)
				if round > 0 && first[key] != text {
					t.Errorf("%s of the town %d: %s, and then %s", c.name, i, first[key], text)
				}
				first[key] = text
			}
		}
	}
	empty := bare(kind(1, 5, 2))
	empty.Barred, empty.Held = []api.Span{}, []api.LicencePaper{}
	for _, c := range calls() {
		one, e := c.ask(bare(kind(1, 5, 2)), asked{})
		two, f := c.ask(empty, asked{wanted: []int{}, plan: []api.LicencePaper{}})
		if one != two || e != api.OK || f != api.OK {
			t.Errorf("%s with nil lists and with empty ones: %s, %d; %s, %d", c.name, one, e, two, f)
		}
		if got, e := c.ask(api.LicenceTown{Kinds: []api.LicenceKind{}}, asked{}); got != c.zero || e != api.ErrLicence {
			t.Errorf("%s of a town with an empty list of kinds: %s, %d", c.name, got, e)
		}
	}
}

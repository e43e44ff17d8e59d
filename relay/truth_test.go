package relay_test

import (
	"math/rand/v2"
	"slices"
	"testing"

	"bioscope/api"
	"bioscope/reel"
	"bioscope/relay"
)

// someSpan is a span of numbers from low to high, no wider than wide.
func someSpan(r *rand.Rand, low, high, wide int) api.Span {
	n := low + r.IntN(high-low+1)
	return span(n, min(high, n+r.IntN(wide+1)))
}

// bookOf is a valid book of so many reels, of no more feet than most, with rides of no more seconds than far.
func bookOf(r *rand.Rand, reels, most, far int) api.RelayBook {
	b := api.RelayBook{Carry: 1 + r.IntN(6), Go: someSpan(r, 0, far, far/2), Back: someSpan(r, 0, far, far/2), Shows: r.IntN(5)}
	b.Film = api.ReelFilm{Turn: someSpan(r, 1, 4, 2), Tear: someSpan(r, 0, 2, 2), Spool: 1000}
	together := r.IntN(6) == 0
	for i := range reels {
		x := api.ReelReel{First: span(4*i+1, 4*i+2), Last: span(4*i+3, 4*i+4), Feet: someSpan(r, 1, most, 1+most/4)}
		if together {
			x.First, x.Last = span(7, 8), span(7, 9)
		}
		b.Film.Reels = append(b.Film.Reels, x)
	}
	if r.IntN(8) == 0 {
		b.Shows = 998
	}
	r.Shuffle(reels, func(i, j int) { b.Film.Reels[i], b.Film.Reels[j] = b.Film.Reels[j], b.Film.Reels[i] })
	return b
}

// someBook is a book in which all takes no more than some hundreds of tenths of a second.
func someBook(r *rand.Rand) api.RelayBook { return bookOf(r, 1+r.IntN(6), 15, 6) }

// large is a book in which rides take about as long as reels.
func large(r *rand.Rand) api.RelayBook {
	b := bookOf(r, 1+r.IntN(6), 1200, 20+r.IntN(600))
	b.Film.Tear, b.Shows = someSpan(r, 0, 50, 50), r.IntN(30)
	return b
}

// plansOf are all plans of a book whose boy carries so many reels: behind each reel but the last one a trip can end, or not.
func plansOf(b api.RelayBook, carry int) (all [][]int) {
	reels := len(b.Film.Reels)
	for ends := range 1 << (reels - 1) {
		plan := []int{1}
		for i := range reels - 1 {
			if ends>>i&1 == 1 {
				plan = append(plan, 0)
			}
			plan[len(plan)-1]++
		}
		if slices.Max(plan) <= carry {
			all = append(all, plan)
		}
	}
	return all
}

func somePlan(r *rand.Rand, b api.RelayBook) []int {
	all := plansOf(b, b.Carry)
	return all[r.IntN(len(all))]
}

// fact is what is true: how many tenths of a second each reel lasts in both tents, in their order, and each ride there and back takes.
type fact struct {
	lasts       [2][]int
	there, back []int
}

// someFact is one in which each reel is torn in each showing, each foot lasts what it does, and each ride takes its time.
func someFact(r *rand.Rand, b api.RelayBook, plan []int) (f fact) {
	within := func(s api.Span) int { return s.Low + r.IntN(s.High-s.Low+1) }
	lasts := func(feet int) (all int) {
		turn := b.Film.Turn
		if r.IntN(3) == 0 {
			turn = span(within(turn), 0)
			turn.High = turn.Low
		}
		for range feet {
			all += within(turn)
		}
		return all
	}
	order, _ := reel.First(b.Film)
	for _, i := range order {
		feet := within(b.Film.Reels[i].Feet)
		for range b.Shows {
			feet = max(0, feet-within(b.Film.Tear))
		}
		f.lasts[0] = append(f.lasts[0], lasts(feet))
		f.lasts[1] = append(f.lasts[1], lasts(max(0, feet-within(b.Film.Tear))))
	}
	for range plan {
		f.there = append(f.there, 10*within(b.Go))
		f.back = append(f.back, 10*within(b.Back))
	}
	return f
}

// tent is one of the two: which reel is on or comes next, whether it is on, and when it is over.
type tent struct {
	reel, ends int
	on         bool
}

// turn does what can be done in a tent now, and tells if that is anything.
func (x *tent) turn(now int, lasts []int, isThere bool) bool {
	if x.on && x.ends == now {
		x.on = false
		x.reel++
		return true
	}
	if !x.on && x.reel < len(lasts) && isThere {
		x.on, x.ends = true, now+lasts[x.reel]
		return true
	}
	return false
}

// told is what a look at both tents in each tenth of a second tells: when each reel was there, whether somebody waited, and when all was over.
type told struct {
	there []int
	waits bool
	over  int
}

// watch looks at both tents, and at the boy, in each tenth of a second.
func watch(f fact, plan []int, start int) (x told) {
	var one, two tent
	reels := len(f.lasts[0])
	trip, taken, riding, arrives := 0, 0, 0, 0 // riding: 1 there, -1 back
	boy := func(now int) bool {
		switch {
		case riding == 0 && trip < len(plan) && one.reel >= taken+plan[trip]:
			riding, arrives = 1, now+f.there[trip]
		case riding == 1 && arrives == now:
			taken += plan[trip]
			for range plan[trip] {
				x.there = append(x.there, now)
			}
			riding, arrives = -1, now+f.back[trip]
			trip++
		case riding == -1 && arrives == now:
			riding = 0
		default:
			return false
		}
		return true
	}
	for now := 0; ; now++ {
		for goes := true; goes; {
			first, rides := one.turn(now, f.lasts[0], true), boy(now)
			second := now >= 10*start && two.turn(now, f.lasts[1], two.reel < taken)
			goes = first || rides || second
		}
		if two.reel == reels {
			x.over = now
			return x
		}
		if now >= 10*start && !two.on {
			x.waits = true
		}
	}
}

func has(s api.Span, n int) bool { return s.Low <= n && n <= s.High }

// P8.9, P8.10: whatever is true, all is as it is told.
func TestWhateverIsTrue(t *testing.T) {
	r := rand.New(rand.NewPCG(83, 1))
	waited, mayWait, none, worn := 0, 0, 0, 0
	for range 4000 {
		b := someBook(r)
		plan := somePlan(r, b)
		f := someFact(r, b, plan)
		surely, perhaps, e := relay.Starts(b, plan)
		right(t, "Starts", e)
		there, e := relay.There(b, plan)
		right(t, "There", e)
		for _, start := range []int{surely, max(0, surely-1), perhaps, max(0, perhaps-1), r.IntN(surely + 5), surely + 1 + r.IntN(20)} {
			x := watch(f, plan, start)
			over, e := relay.Over(b, plan, start)
			right(t, "Over", e)
			for i, at := range x.there {
				if !has(there[i], at) {
					t.Fatalf("There of %v by %v: %v, but it is %v with %v", b, plan, there, x.there, f)
				}
			}
			if !has(over, x.over) || len(x.there) != len(there) {
				t.Fatalf("Over of %v by %v from %d: %v, but it is %d with %v", b, plan, start, over, x.over, f)
			}
			if x.waits && start >= surely || !x.waits && start < perhaps {
				t.Fatalf("Starts of %v by %v: %d, %d; from %d with %v somebody waits: %v", b, plan, surely, perhaps, start, f, x.waits)
			}
			switch {
			case start >= surely:
				none++
			case start < perhaps:
				waited++
			case x.waits:
				mayWait++
			}
		}
		if slices.Contains(f.lasts[0], 0) {
			worn++
		}
	}
	if waited < 500 || mayWait < 500 || none < 500 || worn < 300 {
		t.Errorf("somebody surely waited %d times, perhaps %d times, nobody %d times; reels were worn %d times", waited, mayWait, none, worn)
	}
}

// facts calls see for all that can be true if each number is the least, the greatest, or one between.
func facts(b api.RelayBook, plan []int, see func(fact)) {
	order, _ := reel.First(b.Film)
	var f fact
	for tent := range 2 {
		f.lasts[tent] = make([]int, len(order))
	}
	f.there, f.back = make([]int, len(plan)), make([]int, len(plan))
	var numbers []*int
	var within []api.Span
	add := func(n *int, s api.Span) { numbers, within = append(numbers, n), append(within, s) }
	for i, x := range order {
		for tent := range 2 {
			s, _ := reel.Lasts(b.Film, []int{x}, b.Shows+tent)
			add(&f.lasts[tent][i], s)
		}
	}
	for i := range plan {
		add(&f.there[i], span(10*b.Go.Low, 10*b.Go.High))
		if i < len(plan)-1 {
			add(&f.back[i], span(10*b.Back.Low, 10*b.Back.High))
		}
	}
	var set func(i int)
	set = func(i int) {
		if i == len(numbers) {
			see(f)
			return
		}
		s := within[i]
		values := []int{s.Low, (s.Low + s.High) / 2, s.High}
		for _, n := range slices.Compact(values) {
			*numbers[i] = n
			set(i + 1)
		}
	}
	set(0)
}

// soonest returns the first second from which on nobody waits.
func soonest(f fact, plan []int) int {
	start := 0
	for watch(f, plan, start).waits {
		start++
	}
	return start
}

// P8.2 to P8.4, P8.10: what is told is not only right, but all of it can be true.
func TestAllTruths(t *testing.T) {
	r := rand.New(rand.NewPCG(84, 1))
	apart, later := 0, 0
	for range 500 {
		b := bookOf(r, 1+r.IntN(2), 6, 2)
		if r.IntN(3) == 0 {
			// three reels, with fewer numbers that can be several ones
			b = bookOf(r, 3, 4, 2)
			b.Film.Turn.High, b.Back.High = b.Film.Turn.Low, b.Back.Low
		}
		plan := somePlan(r, b)
		start := r.IntN(6)
		there, least, most := make([]api.Span, len(b.Film.Reels)), 1<<62, -1
		over, first := span(1<<62, -1), true
		facts(b, plan, func(f fact) {
			x := watch(f, plan, start)
			for i, at := range x.there {
				if first {
					there[i] = span(at, at)
				}
				there[i] = span(min(there[i].Low, at), max(there[i].High, at))
			}
			over = span(min(over.Low, x.over), max(over.High, x.over))
			n := soonest(f, plan)
			least, most, first = min(least, n), max(most, n), false
		})
		l, e := relay.There(b, plan)
		right(t, "There", e)
		surely, perhaps, e := relay.Starts(b, plan)
		right(t, "Starts", e)
		s, e := relay.Over(b, plan, start)
		right(t, "Over", e)
		if !slices.Equal(l, there) || surely != most || perhaps != least || s != over {
			t.Fatalf("%v by %v from %d: %v, %d, %d, %v, but it can be %v, %d, %d, %v", b, plan, start, l, surely, perhaps, s, there, most, least, over)
		}
		if least < most {
			apart++
		}
		if there[0].High < 10*most {
			later++
		}
	}
	if apart < 100 || later < 50 {
		t.Errorf("%d times it was not sure who waits, %d times a later reel was the reason", apart, later)
	}
}

// offers returns for each plan of a book whose boy carries so many reels with which beginning surely nobody waits.
func offers(t *testing.T, b api.RelayBook, carry int) (plans [][]int, starts []int) {
	b.Carry = carry
	for _, plan := range plansOf(b, carry) {
		surely, _, e := relay.Starts(b, plan)
		right(t, "Starts", e)
		plans, starts = append(plans, plan), append(starts, surely)
	}
	return plans, starts
}

// bestOf returns the best plan according to two numbers of each one, and then the first one, compared element by element; none if none fits.
func bestOf(plans [][]int, fits func(i int) bool, key func(i int) [2]int) (best []int) {
	var of [2]int
	for i, plan := range plans {
		if !fits(i) {
			continue
		}
		k := key(i)
		order := slices.Compare(k[:], of[:])
		if best == nil || order < 0 || order == 0 && slices.Compare(plan, best) < 0 {
			best, of = plan, k
		}
	}
	return best
}

// P8.5 to P8.7, P8.11: no other plan is better.
func TestAllPlans(t *testing.T) {
	r := rand.New(rand.NewPCG(85, 1))
	kinds, carries, nothing, ties, notFirst := map[int]int{}, map[int]int{}, 0, 0, 0
	for range 1500 {
		b := someBook(r)
		if r.IntN(2) == 0 {
			b = large(r)
		}
		plans, starts := offers(t, b, b.Carry)
		all := func(int) bool { return true }
		want := bestOf(plans, all, func(i int) [2]int { return [2]int{starts[i], len(plans[i])} })
		best, e := relay.Best(b)
		if !slices.Equal(best, want) || e != api.OK {
			t.Fatalf("Best of %v: %v, %d, but it is %v", b, best, e, want)
		}
		kinds[len(best)]++
		soonest := slices.Min(starts)
		var carried [7]int
		for carry := 1; carry <= 6; carry++ {
			_, starts := offers(t, b, carry)
			carried[carry] = slices.Min(starts)
		}
		for _, start := range []int{soonest, max(0, soonest-1), starts[r.IntN(len(starts))], max(0, starts[r.IntN(len(starts))]-1), api.RelayStart} {
			want := bestOf(plans, func(i int) bool { return starts[i] <= start }, func(i int) [2]int { return [2]int{len(plans[i]), 0} })
			few, e := relay.Few(b, start)
			if !slices.Equal(few, want) || (e == api.OK) != (want != nil) || e != api.OK && e != api.ErrNone {
				t.Fatalf("Few of %v from %d: %v, %d, but it is %v", b, start, few, e, want)
			}
			for _, plan := range plans {
				if len(few) == len(plan) && slices.Compare(plan, few) < 0 {
					notFirst++
				}
				if len(few) == len(plan) && slices.Compare(few, plan) < 0 {
					ties++
				}
			}
			need := 0
			for carry := 6; carry > 0; carry-- {
				if carried[carry] <= start {
					need = carry
				}
			}
			n, e := relay.Carry(b, start)
			if n != need || (e == api.OK) != (need > 0) || e != api.OK && e != api.ErrNone {
				t.Fatalf("Carry of %v from %d: %d, %d, but it is %d", b, start, n, e, need)
			}
			carries[n]++
			if e != api.OK {
				nothing++
			}
		}
	}
	if nothing < 100 || ties < 100 || notFirst < 20 {
		t.Errorf("no plan suffices %d times, there are %d plans behind those of as many trips, and %d before that do not suffice", nothing, ties, notFirst)
	}
	for n := 1; n <= 4; n++ {
		if kinds[n] < 20 || carries[n] < 20 {
			t.Errorf("there were %d best plans of %d trips, and %d times so many reels to carry", kinds[n], n, carries[n])
		}
	}
}

// easier are books in which the boy carries more, or rides faster.
func easier(r *rand.Rand, b api.RelayBook) []api.RelayBook {
	less := func(s api.Span) api.Span {
		s.Low -= r.IntN(s.Low + 1)
		s.High -= r.IntN(s.High - s.Low + 1)
		return s
	}
	return []api.RelayBook{
		with(b, carry(min(6, b.Carry+1))), with(b, carry(6)),
		with(b, func(b *api.RelayBook) { b.Go = less(b.Go) }), with(b, func(b *api.RelayBook) { b.Back = less(b.Back) }), with(b, near),
	}
}

// P8.12: if the boy carries more, or rides faster, no more trips are needed, and the second tent can begin no later; nor are more needed if it begins later.
func TestEasier(t *testing.T) {
	r := rand.New(rand.NewPCG(86, 1))
	fewer, sooner, later := 0, 0, 0
	for range 1500 {
		b := large(r)
		best, e := relay.Best(b)
		right(t, "Best", e)
		begin, _, e := relay.Starts(b, best)
		right(t, "Starts", e)
		start := begin + r.IntN(300)
		few, e := relay.Few(b, start)
		right(t, "Few", e)
		for _, x := range easier(r, b) {
			l, e := relay.Best(x)
			right(t, "Best", e)
			n, _, e := relay.Starts(x, l)
			right(t, "Starts", e)
			m, e := relay.Few(x, start)
			right(t, "Few", e)
			if n > begin || len(m) > len(few) {
				t.Fatalf("%v from %d: %d, %v; %v: %d, %v", b, start, begin, few, x, n, m)
			}
			if n < begin {
				sooner++
			}
			if len(m) < len(few) {
				fewer++
			}
		}
		m, e := relay.Few(b, start+1+r.IntN(300))
		right(t, "Few", e)
		if len(m) > len(few) {
			t.Fatalf("%v from %d: %v, but later %v", b, start, few, m)
		}
		if len(m) < len(few) {
			later++
		}
	}
	if fewer < 100 || sooner < 100 || later < 50 {
		t.Errorf("%d times there were fewer trips, %d times it could begin sooner, %d times there were fewer trips later", fewer, sooner, later)
	}
}

// P8.12: reels that come by one trip are there together, and no sooner than those of the trip before; P8.13: a tent that begins later is over no sooner.
func TestTogether(t *testing.T) {
	r := rand.New(rand.NewPCG(87, 1))
	same, longer := 0, 0
	for range 1500 {
		b := large(r)
		plan := somePlan(r, b)
		there, e := relay.There(b, plan)
		right(t, "There", e)
		next := 0
		for _, trip := range plan {
			for i := range trip {
				if there[next+i] != there[next] {
					t.Fatalf("%v by %v: %v", b, plan, there)
				}
			}
			if next > 0 && (there[next].Low < there[next-1].Low || there[next].High < there[next-1].High) {
				t.Fatalf("%v by %v: %v", b, plan, there)
			}
			next += trip
		}
		surely, _, e := relay.Starts(b, plan)
		right(t, "Starts", e)
		start := r.IntN(surely + 50)
		later := start + 1 + r.IntN(50)
		one, e := relay.Over(b, plan, start)
		right(t, "Over", e)
		two, e := relay.Over(b, plan, later)
		right(t, "Over", e)
		if two.Low < one.Low || two.High < one.High || two.High-one.High > 10*(later-start) || two.Low < 10*later {
			t.Fatalf("%v by %v from %d: %v, from %d: %v", b, plan, start, one, later, two)
		}
		if two == one {
			same++
		}
		if two.Low > one.Low {
			longer++
		}
	}
	if same < 100 || longer < 100 {
		t.Errorf("%d times it was over as soon, %d times later", same, longer)
	}
}

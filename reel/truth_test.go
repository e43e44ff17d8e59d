package reel_test

import (
	"math/rand/v2"
	"slices"
	"testing"

	"bioscope/api"
	"bioscope/reel"
)

// follows tells by all scenes one by one if reels can follow one another.
func follows(f api.ReelFilm, order []int) bool {
	var ends [102]bool // the scene before the first one is 0
	for i := range ends {
		ends[i] = true
	}
	for _, k := range order {
		x := f.Reels[k]
		var next [102]bool
		some := false
		for first := x.First.Low; first <= x.First.High; first++ {
			if !ends[first+1] && !ends[first] {
				continue
			}
			for last := max(first, x.Last.Low); last <= x.Last.High; last++ {
				next[last+1], some = true, true
			}
		}
		if !some {
			return false
		}
		ends = next
	}
	return true
}

// permutations calls visit with all orders of the numbers of a list, the first one first.
func permutations(list []int, visit func([]int)) {
	var put func(done, rest []int)
	put = func(done, rest []int) {
		if len(rest) == 0 {
			visit(slices.Clone(done))
		}
		for i, x := range rest {
			put(append(slices.Clone(done), x), slices.Delete(slices.Clone(rest), i, i+1))
		}
	}
	put(nil, list)
}

// numbers are those of all reels but the ones of a list.
func numbers(f api.ReelFilm, without []int) (list []int) {
	for i := range f.Reels {
		if !slices.Contains(without, i) {
			list = append(list, i)
		}
	}
	return list
}

// allOrders are all orders of a film's reels but the ones of a list.
func allOrders(f api.ReelFilm, without []int) (all [][]int) {
	permutations(numbers(f, without), func(l []int) {
		if len(l) > 0 && follows(f, l) {
			all = append(all, l)
		}
	})
	return all
}

// sublists are all strictly increasing lists of numbers below many.
func sublists(many int) (all [][]int) {
	for k := range 1 << many {
		var l []int
		for i := range many {
			if k>>i&1 == 1 {
				l = append(l, i)
			}
		}
		all = append(all, l)
	}
	return all
}

// fewestStrange is the first of the shortest lists without which there are orders.
func fewestStrange(f api.ReelFilm) (best []int) {
	found := false
	for _, l := range sublists(len(f.Reels)) {
		if len(allOrders(f, l)) == 0 {
			continue
		}
		if !found || len(l) < len(best) || len(l) == len(best) && slices.Compare(l, best) < 0 {
			best, found = l, true
		}
	}
	return best
}

// P1.1 to P1.3 held against all orders that there are.
func TestOrdersOfSomeFilms(t *testing.T) {
	r := rand.New(rand.NewPCG(3, 4))
	for range 250 {
		f := someFilm(r)
		want := allOrders(f, nil)
		if n, e := reel.Orders(f); n != len(want) || e != api.OK {
			t.Fatalf("Orders of %v: %d, %d, not %d", f, n, e, len(want))
		}
		l, e := reel.First(f)
		if len(want) == 0 && (len(l) > 0 || e != api.ErrNone) || len(want) > 0 && (!slices.Equal(l, want[0]) || e != api.OK) {
			t.Fatalf("First of %v: %v, %d", f, l, e)
		}
		for i := range f.Reels {
			var places []int
			for place := range f.Reels {
				if slices.ContainsFunc(want, func(o []int) bool { return o[place] == i }) {
					places = append(places, place)
				}
			}
			if got, _ := reel.Places(f, i); !slices.Equal(got, places) {
				t.Fatalf("Places of %d of %v: %v, not %v", i, f, got, places)
			}
		}
		if got, e := reel.Strange(f); !slices.Equal(got, fewestStrange(f)) || e != api.OK {
			t.Fatalf("Strange of %v: %v, %d, not %v", f, got, e, fewestStrange(f))
		}
		for range 10 {
			l := r.Perm(len(f.Reels))[:1+r.IntN(len(f.Reels))]
			if is, e := reel.IsOrder(f, l); is != follows(f, l) || e != api.OK {
				t.Fatalf("IsOrder of %v of %v: %v, %d", l, f, is, e)
			}
		}
	}
}

// wide is a span around a number, within limits.
func wide(r *rand.Rand, n, low, high int) api.Span {
	return s(max(low, n-r.IntN(4)), min(high, n+r.IntN(4)))
}

// trueFilm is a film of reels that truly follow one another, of which not all can be seen.
func trueFilm(r *rand.Rand, many int) api.ReelFilm {
	f := api.ReelFilm{Turn: s(1, 2), Tear: s(0, 1), Spool: 1000}
	scene := r.IntN(60)
	for range many {
		first := min(99, scene+r.IntN(2))
		last := min(99, first+r.IntN(5))
		f.Reels = append(f.Reels, of(wide(r, first, 0, 99), wide(r, last, 0, 99), s(1, 2)))
		scene = last
	}
	return f
}

// P1.10: the true order is one, each reel is at its true place, and no more reels are strange than truly are.
func TestMixedUpReels(t *testing.T) {
	r := rand.New(rand.NewPCG(5, 6))
	for range 300 {
		straight := trueFilm(r, 1+r.IntN(6))
		order := r.Perm(len(straight.Reels)) // the reel order[place] is at the place
		f := copyOf(straight)
		for place, i := range order {
			f.Reels[i] = straight.Reels[place]
		}
		if is, e := reel.IsOrder(f, order); !is || e != api.OK {
			t.Fatalf("the true order %v of %v: %v, %d", order, f, is, e)
		}
		if n, _ := reel.Orders(f); n < 1 {
			t.Fatalf("Orders of %v: %d", f, n)
		}
		first, e := reel.First(f)
		if e != api.OK || slices.Compare(first, order) > 0 {
			t.Fatalf("First of %v: %v, %d", f, first, e)
		}
		if l, _ := reel.Strange(f); len(l) > 0 {
			t.Fatalf("Strange of %v: %v", f, l)
		}
		for place, i := range order {
			if l, _ := reel.Places(f, i); !slices.Contains(l, place) {
				t.Fatalf("Places of %d of %v: %v without %d", i, f, l, place)
			}
		}
	}
	for range 300 {
		mine := trueFilm(r, 1+r.IntN(4))
		other := trueFilm(r, 1+r.IntN(2))
		f := copyOf(mine)
		f.Reels = slices.Concat(other.Reels, mine.Reels)
		l, e := reel.Strange(f)
		if e != api.OK || len(l) > len(other.Reels) {
			t.Fatalf("Strange of %v: %v, %d", f, l, e)
		}
		if len(allOrders(f, l)) == 0 {
			t.Fatalf("Strange of %v: %v, but the others have no order", f, l)
		}
	}
}

// narrow is a part of a span.
func narrow(r *rand.Rand, x api.Span) api.Span {
	low := within(r, x)
	return s(low, low+r.IntN(x.High-low+1))
}

// P1.11: what can be seen better leaves no more orders, and a part of an order is one.
func TestBetterSeen(t *testing.T) {
	r := rand.New(rand.NewPCG(7, 8))
	for range 300 {
		f := someFilm(r)
		better := copyOf(f)
		k := r.IntN(len(f.Reels))
		x := f.Reels[k]
		x.First, x.Last = narrow(r, x.First), narrow(r, x.Last)
		if x.First.Low <= x.Last.High {
			better.Reels[k] = x
		}
		many, e := reel.Orders(f)
		right(t, "Orders", e)
		fewer, e := reel.Orders(better)
		right(t, "Orders", e)
		if fewer > many {
			t.Fatalf("%v has %d orders, and %v %d", f, many, better, fewer)
		}
		order, e := reel.First(f)
		if e != api.OK {
			continue
		}
		for from := range order {
			for to := from + 1; to <= len(order); to++ {
				if is, e := reel.IsOrder(f, order[from:to]); !is || e != api.OK {
					t.Fatalf("%v is no order of %v, but %v is: %d", order[from:to], f, order, e)
				}
			}
		}
	}
}

// left is how many feet showings leave that each take what is told.
func left(feet, shows int, take func() int) int {
	for range shows {
		if t := take(); feet >= t {
			feet -= t
		} else {
			feet = 0
		}
	}
	return feet
}

// P1.12 (and P1.4 to P1.6): whatever showings take, all that is told is so, and each end can be so.
func TestTornOff(t *testing.T) {
	r := rand.New(rand.NewPCG(9, 10))
	for range 150 {
		f := someFilm(r)
		i := r.IntN(len(f.Reels))
		x := f.Reels[i]
		shows := r.IntN(1 + r.IntN(1000))
		feet := left(within(r, x.Feet), shows, func() int { return within(r, f.Tear) })
		worn, e := reel.Worn(f, i, shows)
		right(t, "Worn", e)
		if !has(worn, feet) {
			t.Fatalf("Worn of %d of %v after %d: %v, but %d are left", i, f, shows, worn, feet)
		}
		least := left(x.Feet.Low, shows, func() int { return f.Tear.High })
		most := left(x.Feet.High, shows, func() int { return f.Tear.Low })
		if worn != s(least, most) {
			t.Fatalf("Worn of %d of %v after %d: %v, not %d to %d", i, f, shows, worn, least, most)
		}
		seen, e := reel.Seen(f, i, feet)
		right(t, "Seen", e)
		if !has(seen, shows) {
			t.Fatalf("Seen of %d of %v, %d feet: %v, but there were %d", i, f, feet, seen, shows)
		}
		if feet > 0 {
			_, perhaps, e := reel.Shows(f, i, feet)
			right(t, "Shows", e)
			if perhaps < shows {
				t.Fatalf("Shows of %d of %v, %d feet: perhaps %d, but there were %d", i, f, feet, perhaps, shows)
			}
		}
		checkServes(t, f, i, 1+r.IntN(x.Feet.High))
	}
}

// checkServes holds Shows and Seen against Worn after all numbers of showings.
func checkServes(t *testing.T, f api.ReelFilm, i, feet int) {
	t.Helper()
	surely, perhaps := -1, -1
	var seen []int
	for shows := range 1000 {
		worn, e := reel.Worn(f, i, shows)
		right(t, "Worn", e)
		if worn.Low >= feet {
			surely = shows
		}
		if worn.High >= feet {
			perhaps = shows
		}
		if has(worn, feet) {
			seen = append(seen, shows)
		}
	}
	if a, b, e := reel.Shows(f, i, feet); a != surely || b != perhaps || e != api.OK {
		t.Fatalf("Shows of %d of %v, %d feet: %d, %d, %d, not %d, %d", i, f, feet, a, b, e, surely, perhaps)
	}
	got, e := reel.Seen(f, i, feet)
	if len(seen) == 0 && (e != api.ErrNone || got != s(0, 0)) || len(seen) > 0 && (e != api.OK || got != s(seen[0], seen[len(seen)-1])) {
		t.Fatalf("Seen of %d of %v, %d feet: %v, %d, not %v", i, f, feet, got, e, seen)
	}
}

// shown is how many tenths of a second so many feet truly last.
func shown(r *rand.Rand, f api.ReelFilm, feet int) (tenths int) {
	for range feet {
		tenths += within(r, f.Turn)
	}
	return tenths
}

// P1.13 (and P1.7, P1.8): all reels last, and each spool is over, between what is told; and each end can be so.
func TestOnTime(t *testing.T) {
	r := rand.New(rand.NewPCG(11, 12))
	for range 200 {
		f := someFilm(r)
		f.Spool = max(f.Spool, 1200)
		order := r.Perm(len(f.Reels))
		order = order[:1+r.IntN(len(order))]
		shows := r.IntN(50)
		spools, e := reel.Spools(f, order, shows)
		right(t, "Spools", e)
		changes, e := reel.Changes(f, order, shows)
		right(t, "Changes", e)
		if len(changes) != len(spools)-1 {
			t.Fatalf("%v spools, but %v changes", spools, changes)
		}
		tenths, least, most, place := 0, 0, 0, 0
		for k, many := range spools {
			for range many {
				x := f.Reels[order[place]]
				tenths += shown(r, f, left(within(r, x.Feet), shows, func() int { return within(r, f.Tear) }))
				least += f.Turn.Low * left(x.Feet.Low, shows, func() int { return f.Tear.High })
				most += f.Turn.High * left(x.Feet.High, shows, func() int { return f.Tear.Low })
				place++
			}
			if k == len(changes) {
				break
			}
			if !has(changes[k], tenths) || changes[k] != s(least, most) {
				t.Fatalf("Changes of %v of %v after %d: %v, but %d of %d to %d", order, f, shows, changes, tenths, least, most)
			}
		}
		lasts, e := reel.Lasts(f, order, shows)
		right(t, "Lasts", e)
		if !has(lasts, tenths) || lasts != s(least, most) {
			t.Fatalf("Lasts of %v of %v after %d: %v, but %d of %d to %d", order, f, shows, lasts, tenths, least, most)
		}
	}
}

// fewestSpools is how many spools are needed, of all ways to join reels of so many feet.
func fewestSpools(feet []int, spool int) int {
	if len(feet) == 0 {
		return 0
	}
	best := len(feet)
	for many := range feet {
		room := spool
		for _, x := range feet[:many+1] {
			room -= x
		}
		if room >= 0 {
			best = min(best, 1+fewestSpools(feet[many+1:], spool))
		}
	}
	return best
}

// P1.14: no spool is too full, one reel more may be too much, and no fewer spools will do; a larger spool, or more showings, need no more.
func TestFewSpools(t *testing.T) {
	r := rand.New(rand.NewPCG(13, 14))
	for range 400 {
		f := someFilm(r)
		f.Spool = min(6000, 1200+r.IntN(2400))
		order := r.Perm(len(f.Reels))
		order = order[:1+r.IntN(len(order))]
		shows := r.IntN(60)
		var feet []int
		for _, i := range order {
			worn, e := reel.Worn(f, i, shows)
			right(t, "Worn", e)
			feet = append(feet, worn.High)
		}
		spools, e := reel.Spools(f, order, shows)
		right(t, "Spools", e)
		place := 0
		for _, many := range spools {
			if many < 1 || place+many > len(feet) {
				t.Fatalf("Spools of %v of %v: %v", order, f, spools)
			}
			all := 0
			for _, x := range feet[place : place+many] {
				all += x
			}
			place += many
			if all > f.Spool || place < len(feet) && all+feet[place] <= f.Spool {
				t.Fatalf("Spools of %v of %v with %v feet: %v", order, f, feet, spools)
			}
		}
		if place != len(order) || len(spools) != fewestSpools(feet, f.Spool) {
			t.Fatalf("Spools of %v of %v with %v feet: %v", order, f, feet, spools)
		}
		larger := copyOf(f)
		larger.Spool += r.IntN(6001 - larger.Spool)
		fewer, e := reel.Spools(larger, order, shows)
		right(t, "Spools", e)
		worn, e := reel.Spools(f, order, shows+r.IntN(100))
		right(t, "Spools", e)
		if len(fewer) > len(spools) || len(worn) > len(spools) {
			t.Fatalf("Spools of %v of %v: %v, but %v with a larger spool, and %v later", order, f, spools, fewer, worn)
		}
	}
}

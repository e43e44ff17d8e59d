package reel_test

import (
	"math"
	"math/rand/v2"
	"slices"
	"testing"

	"bioscope/api"
	"bioscope/reel"
)

// P1.1: Check, and that all functions return its error first.
func TestCheck(t *testing.T) {
	for name, f := range wrongFilms() {
		if e := reel.Check(f); e != api.ErrReel {
			t.Errorf("Check of a film with %s: %d", name, e)
		}
		for _, c := range calls() {
			for _, l := range [][]int{nil, {0, 0}, {0}} {
				for _, i := range []int{-1, 0, 9} {
					if got, e := c.ask(f, l, i, i*1000); got != c.zero || e != api.ErrReel {
						t.Errorf("%s of a film with %s: %s, %d", c.name, name, got, e)
					}
				}
			}
		}
	}
}

// P1.1: what is just valid.
func TestCheckLimits(t *testing.T) {
	for i, f := range []api.ReelFilm{
		example(), example(torn), known([2]int{0, 0}), known([2]int{99, 99}), spans([2]api.Span{s(0, 99), s(0, 99)}),
		spans([2]api.Span{s(5, 9), s(0, 5)}), example(func(f *api.ReelFilm) { f.Reels = slices.Concat(f.Reels, f.Reels[:2]) }),
		example(reelOf(0, of(s(1, 1), s(1, 1), s(1, 1200)))), example(reelOf(3, of(s(1, 1), s(1, 1), s(1200, 1200)))),
		example(func(f *api.ReelFilm) { f.Turn = s(1, 20) }), example(func(f *api.ReelFilm) { f.Turn = s(20, 20) }),
		example(tear(0, 50)), example(tear(0, 0)), example(tear(50, 50)), example(spool(1)), example(spool(6000)),
	} {
		if e := reel.Check(f); e != api.OK {
			t.Errorf("Check of the film %d: %d", i, e)
		}
	}
}

// P1.1: which lists are orders.
func TestIsOrder(t *testing.T) {
	for i, x := range []struct {
		f    api.ReelFilm
		l    []int
		want bool
	}{
		// the examples
		{example(), []int{1, 0}, true}, {example(), []int{0, 1}, false}, {example(), []int{0, 3, 2}, true}, {example(), []int{2, 0}, false},
		{example(), []int{1, 0, 2, 3}, true}, {example(), []int{1, 0, 3, 2}, true}, {example(), []int{1, 3, 0, 2}, false}, {example(torn), []int{1, 0}, false}, {example(torn), []int{1}, true},
		// the same scene, the one behind it, one farther on, one before
		{known([2]int{1, 4}, [2]int{4, 6}), []int{0, 1}, true}, {known([2]int{1, 4}, [2]int{5, 6}), []int{0, 1}, true}, {known([2]int{1, 4}, [2]int{6, 7}), []int{0, 1}, false}, {known([2]int{1, 4}, [2]int{3, 6}), []int{0, 1}, false},
		// the ends of what can be seen
		{spans([2]api.Span{s(0, 0), s(3, 5)}, [2]api.Span{s(6, 9), s(9, 9)}), []int{0, 1}, true}, {spans([2]api.Span{s(0, 0), s(3, 5)}, [2]api.Span{s(7, 9), s(9, 9)}), []int{0, 1}, false},
		{spans([2]api.Span{s(0, 0), s(3, 5)}, [2]api.Span{s(0, 3), s(9, 9)}), []int{0, 1}, true}, {spans([2]api.Span{s(0, 0), s(3, 5)}, [2]api.Span{s(0, 2), s(9, 9)}), []int{0, 1}, false},
		// a last scene is no less than the first one: of the first reel, and of the next one
		{spans([2]api.Span{s(4, 6), s(0, 8)}, [2]api.Span{s(2, 3), s(9, 9)}), []int{0, 1}, false}, {spans([2]api.Span{s(4, 6), s(0, 8)}, [2]api.Span{s(2, 4), s(9, 9)}), []int{0, 1}, true},
		{spans([2]api.Span{s(5, 5), s(7, 7)}, [2]api.Span{s(4, 9), s(4, 6)}), []int{0, 1}, false}, {spans([2]api.Span{s(5, 5), s(7, 7)}, [2]api.Span{s(4, 9), s(4, 7)}), []int{0, 1}, true},
		// each pair can follow one another, but not all three
		{spans([2]api.Span{s(0, 5), s(0, 5)}, [2]api.Span{s(3, 4), s(0, 9)}, [2]api.Span{s(1, 2), s(9, 9)}), []int{0, 1, 2}, false}, {spans([2]api.Span{s(0, 5), s(0, 5)}, [2]api.Span{s(3, 4), s(0, 9)}, [2]api.Span{s(1, 3), s(9, 9)}), []int{0, 1, 2}, true},
		// the first and the last scene of all
		{known([2]int{99, 99}), []int{0}, true}, {known([2]int{0, 0}), []int{0}, true}, {known([2]int{90, 99}, [2]int{99, 99}), []int{0, 1}, true}, {known([2]int{90, 98}, [2]int{99, 99}), []int{0, 1}, true}, {known([2]int{0, 0}, [2]int{0, 0}), []int{1, 0}, true},
	} {
		if is, e := reel.IsOrder(x.f, x.l); is != x.want || e != api.OK {
			t.Errorf("IsOrder %d, of %v: %v, %d", i, x.l, is, e)
		}
	}
	for _, l := range [][]int{nil, {}, {4}, {-1}, {0, 0}, {1, 0, 1}, {0, 1, 2, 3, 0}, {0, 1, 2, 3, 4}, {1, 0, 5}, {math.MaxInt}, {math.MinInt, 0}, make([]int, 1000)} {
		if is, e := reel.IsOrder(example(), l); is || e != api.ErrReelAsk {
			t.Errorf("IsOrder of %v: %v, %d", l, is, e)
		}
	}
}

// P1.1 to P1.3: all orders, the first one, and the fewest strange reels.
func TestOrders(t *testing.T) {
	for i, x := range []struct {
		f              api.ReelFilm
		many           int
		first, strange []int
	}{
		// the examples
		{example(), 2, []int{1, 0, 2, 3}, nil}, {example(torn), 0, nil, []int{1}},
		// one reel, two, and three that fit in any order
		{known([2]int{3, 9}), 1, []int{0}, nil}, {known([2]int{5, 9}, [2]int{1, 4}), 1, []int{1, 0}, nil}, {known([2]int{4, 4}, [2]int{4, 4}, [2]int{4, 4}), 6, []int{0, 1, 2}, nil}, {known([2]int{4, 4}, [2]int{5, 5}, [2]int{4, 4}), 2, []int{0, 2, 1}, nil},
		// six of them
		{known([2]int{7, 7}, [2]int{7, 7}, [2]int{7, 7}, [2]int{7, 7}, [2]int{7, 7}, [2]int{7, 7}), 720, []int{0, 1, 2, 3, 4, 5}, nil}, {known([2]int{50, 60}, [2]int{41, 50}, [2]int{30, 40}, [2]int{20, 29}, [2]int{11, 20}, [2]int{1, 10}), 1, []int{5, 4, 3, 2, 1, 0}, nil},
		// reels that do not fit: the first lists of the fewest of them
		{known([2]int{5, 9}, [2]int{1, 3}), 0, nil, []int{0}}, {known([2]int{1, 2}, [2]int{10, 12}, [2]int{20, 23}), 0, nil, []int{0, 1}}, {known([2]int{1, 2}, [2]int{50, 52}, [2]int{2, 3}, [2]int{53, 60}), 0, nil, []int{0, 2}}, {known([2]int{50, 52}, [2]int{1, 2}, [2]int{2, 3}, [2]int{53, 60}), 0, nil, []int{0, 3}},
		{known([2]int{1, 2}, [2]int{50, 52}, [2]int{2, 3}, [2]int{53, 60}, [2]int{4, 7}), 0, nil, []int{1, 3}}, {known([2]int{0, 1}, [2]int{10, 11}, [2]int{20, 21}, [2]int{30, 31}, [2]int{40, 41}, [2]int{50, 51}), 0, nil, []int{0, 1, 2, 3, 4}}, {known([2]int{1, 2}, [2]int{3, 4}, [2]int{5, 6}, [2]int{7, 8}, [2]int{9, 10}, [2]int{20, 30}), 0, nil, []int{5}},
		// one scene is missing before the last reel
		{known([2]int{1, 2}, [2]int{3, 3}, [2]int{5, 6}), 0, nil, []int{2}},
	} {
		if n, e := reel.Orders(x.f); n != x.many || e != api.OK {
			t.Errorf("Orders %d: %d, %d", i, n, e)
		}
		want := api.OK
		if x.many == 0 {
			want = api.ErrNone
		}
		if l, e := reel.First(x.f); !slices.Equal(l, x.first) || e != want {
			t.Errorf("First %d: %v, %d", i, l, e)
		}
		if l, e := reel.Strange(x.f); !slices.Equal(l, x.strange) || e != api.OK {
			t.Errorf("Strange %d: %v, %d", i, l, e)
		}
	}
}

// P1.2: at which places a reel can be, and the order of the errors.
func TestPlaces(t *testing.T) {
	gap := known([2]int{4, 4}, [2]int{4, 5}, [2]int{4, 4}, [2]int{5, 5})
	for i, x := range []struct {
		f    api.ReelFilm
		reel int
		want []int
		e    api.Errno
	}{
		{example(), 0, []int{1}, api.OK}, {example(), 1, []int{0}, api.OK}, {example(), 2, []int{2, 3}, api.OK}, {example(), 3, []int{2, 3}, api.OK},
		{known([2]int{3, 3}), 0, []int{0}, api.OK}, {gap, 0, []int{0, 1}, api.OK}, {gap, 1, []int{2}, api.OK}, {gap, 3, []int{3}, api.OK},
		// a reel that fits before, between and behind the others, or only before them
		{spans([2]api.Span{s(4, 4), s(4, 5)}, [2]api.Span{s(4, 4), s(5, 5)}, [2]api.Span{s(4, 6), s(4, 6)}), 2, []int{0, 1, 2}, api.OK}, {spans([2]api.Span{s(1, 1), s(4, 4)}, [2]api.Span{s(5, 5), s(8, 8)}, [2]api.Span{s(0, 8), s(0, 9)}), 2, []int{0, 1, 2}, api.OK}, {spans([2]api.Span{s(3, 3), s(4, 4)}, [2]api.Span{s(5, 5), s(6, 6)}, [2]api.Span{s(1, 7), s(1, 2)}), 2, []int{0}, api.OK}, {spans([2]api.Span{s(3, 3), s(6, 6)}, [2]api.Span{s(7, 7), s(8, 8)}, [2]api.Span{s(2, 9), s(2, 9)}), 2, []int{0, 1, 2}, api.OK},
		{example(torn), 1, nil, api.ErrNone}, {example(torn), 0, nil, api.ErrNone}, {example(torn), 4, nil, api.ErrReelAsk}, {example(torn), -1, nil, api.ErrReelAsk}, {example(), 4, nil, api.ErrReelAsk}, {example(), -1, nil, api.ErrReelAsk}, {example(), math.MaxInt, nil, api.ErrReelAsk},
	} {
		if l, e := reel.Places(x.f, x.reel); !slices.Equal(l, x.want) || e != x.e {
			t.Errorf("Places %d: %v, %d", i, l, e)
		}
	}
}

// P1.4: what is left of a reel.
func TestWorn(t *testing.T) {
	for i, x := range []struct {
		f           api.ReelFilm
		reel, shows int
		want        api.Span
		e           api.Errno
	}{
		{example(), 1, 10, s(920, 990), api.OK}, {example(), 3, 300, s(0, 400), api.OK}, {example(), 1, 0, s(950, 1000), api.OK}, {example(), 3, 233, s(1, 467), api.OK}, {example(), 3, 234, s(0, 466), api.OK}, {example(), 3, 699, s(0, 1), api.OK}, {example(), 3, 700, s(0, 0), api.OK}, {example(), 0, 999, s(0, 0), api.OK},
		{example(tear(0, 0)), 1, 999, s(950, 1000), api.OK}, {example(tear(0, 3)), 3, 100, s(400, 700), api.OK}, {example(tear(50, 50)), 0, 17, s(50, 50), api.OK}, {example(tear(50, 50)), 0, 18, s(0, 0), api.OK},
		{example(), 4, 0, s(0, 0), api.ErrReelAsk}, {example(), -1, 0, s(0, 0), api.ErrReelAsk}, {example(), 0, 1000, s(0, 0), api.ErrReelAsk}, {example(), 0, -1, s(0, 0), api.ErrReelAsk}, {example(), 0, math.MaxInt, s(0, 0), api.ErrReelAsk}, {example(), math.MinInt, math.MinInt, s(0, 0), api.ErrReelAsk},
	} {
		if got, e := reel.Worn(x.f, x.reel, x.shows); got != x.want || e != x.e {
			t.Errorf("Worn %d: %v, %d", i, got, e)
		}
	}
}

// P1.5: how long a reel still serves.
func TestShows(t *testing.T) {
	for i, x := range []struct {
		f               api.ReelFilm
		reel, feet      int
		surely, perhaps int
		e               api.Errno
	}{
		{example(), 2, 700, 33, 120, api.OK}, {example(), 2, 810, -1, 10, api.OK}, {example(), 2, 900, 0, 0, api.ErrNone}, {example(), 2, 800, 0, 20, api.OK}, {example(), 2, 801, -1, 19, api.OK}, {example(), 2, 820, -1, 0, api.OK}, {example(), 2, 821, 0, 0, api.ErrNone}, {example(), 3, 1, 233, 699, api.OK}, {example(), 3, 700, 0, 0, api.OK},
		{example(tear(0, 0)), 1, 950, 999, 999, api.OK}, {example(tear(0, 0)), 1, 960, -1, 999, api.OK}, {example(tear(0, 3)), 3, 400, 100, 999, api.OK}, {example(tear(1, 1), reelOf(0, of(s(1, 1), s(1, 1), s(1000, 1001)))), 0, 1, 999, 999, api.OK}, {example(tear(1, 1), reelOf(0, of(s(1, 1), s(1, 1), s(999, 1000)))), 0, 1, 998, 999, api.OK},
		{example(), 0, 1200, 0, 0, api.ErrNone}, {example(), 0, 1201, 0, 0, api.ErrReelAsk}, {example(), 0, 0, 0, 0, api.ErrReelAsk}, {example(), 0, -1, 0, 0, api.ErrReelAsk}, {example(), 4, 5, 0, 0, api.ErrReelAsk}, {example(), -1, 1200, 0, 0, api.ErrReelAsk}, {example(), math.MaxInt, math.MaxInt, 0, 0, api.ErrReelAsk},
	} {
		if a, b, e := reel.Shows(x.f, x.reel, x.feet); a != x.surely || b != x.perhaps || e != x.e {
			t.Errorf("Shows %d: %d, %d, %d", i, a, b, e)
		}
	}
}

// P1.6: how many showings a reel had.
func TestSeen(t *testing.T) {
	for i, x := range []struct {
		f          api.ReelFilm
		reel, feet int
		want       api.Span
		e          api.Errno
	}{
		{example(), 3, 690, s(4, 10), api.OK}, {example(), 3, 701, s(0, 0), api.ErrNone}, {example(), 3, 700, s(0, 0), api.OK}, {example(), 2, 810, s(0, 10), api.OK}, {example(), 2, 700, s(34, 120), api.OK}, {example(), 3, 1, s(233, 699), api.OK}, {example(), 3, 0, s(234, 999), api.OK},
		{example(tear(0, 0)), 1, 960, s(0, 999), api.OK}, {example(tear(0, 0)), 1, 949, s(0, 0), api.ErrNone}, {example(tear(0, 0)), 1, 0, s(0, 0), api.ErrNone}, {example(tear(0, 3)), 3, 400, s(100, 999), api.OK},
		// numbers between two showings, and ones that more showings than 999 would leave
		{example(tear(3, 3)), 0, 897, s(1, 1), api.OK}, {example(tear(3, 3)), 0, 898, s(0, 0), api.ErrNone}, {example(tear(7, 7)), 3, 0, s(100, 999), api.OK}, {example(tear(1, 1), reelOf(0, of(s(1, 1), s(1, 1), s(1200, 1200)))), 0, 201, s(999, 999), api.OK}, {example(tear(1, 1), reelOf(0, of(s(1, 1), s(1, 1), s(1200, 1200)))), 0, 200, s(0, 0), api.ErrNone}, {example(tear(1, 1), reelOf(0, of(s(1, 1), s(1, 1), s(1200, 1200)))), 0, 0, s(0, 0), api.ErrNone},
		{example(), 0, 1200, s(0, 0), api.ErrNone}, {example(), 0, 1201, s(0, 0), api.ErrReelAsk}, {example(), 0, -1, s(0, 0), api.ErrReelAsk}, {example(), 4, 5, s(0, 0), api.ErrReelAsk}, {example(), -1, 5, s(0, 0), api.ErrReelAsk}, {example(), 4, 1200, s(0, 0), api.ErrReelAsk},
	} {
		if got, e := reel.Seen(x.f, x.reel, x.feet); got != x.want || e != x.e {
			t.Errorf("Seen %d: %v, %d", i, got, e)
		}
	}
}

// P1.7: how long reels last, in any order, or none of them.
func TestLasts(t *testing.T) {
	for i, x := range []struct {
		f     api.ReelFilm
		l     []int
		shows int
		want  api.Span
		e     api.Errno
	}{
		{example(), []int{0, 1, 2, 3}, 0, s(20100, 27360), api.OK}, {example(), nil, 0, s(0, 0), api.OK}, {example(), []int{}, 999, s(0, 0), api.OK}, {example(), []int{3, 0, 2, 1}, 0, s(20100, 27360), api.OK}, {example(), []int{3}, 300, s(0, 3200), api.OK}, {example(), []int{2, 1}, 10, s(10140, 14400), api.OK}, {example(), []int{0, 1, 2, 3}, 999, s(0, 8), api.OK},
		{example(tear(50, 50), func(f *api.ReelFilm) { f.Turn = s(1, 20) }), []int{0, 3}, 15, s(150, 3000), api.OK},
		{example(), []int{0, 0}, 0, s(0, 0), api.ErrReelAsk}, {example(), []int{4}, 0, s(0, 0), api.ErrReelAsk}, {example(), []int{-1}, 0, s(0, 0), api.ErrReelAsk}, {example(), []int{0, 1, 2, 3, 3}, 0, s(0, 0), api.ErrReelAsk}, {example(), nil, 1000, s(0, 0), api.ErrReelAsk}, {example(), nil, -1, s(0, 0), api.ErrReelAsk}, {example(), []int{0}, math.MaxInt, s(0, 0), api.ErrReelAsk},
	} {
		if got, e := reel.Lasts(x.f, x.l, x.shows); got != x.want || e != x.e {
			t.Errorf("Lasts %d: %v, %d", i, got, e)
		}
	}
}

// P1.8: on which spools reels are joined, and when they are changed.
func TestSpools(t *testing.T) {
	all := []int{1, 0, 2, 3}
	for i, x := range []struct {
		f       api.ReelFilm
		l       []int
		shows   int
		want    []int
		changes []api.Span
		e       api.Errno
	}{
		// the examples
		{example(), all, 0, []int{2, 2}, []api.Span{s(11100, 15200)}, api.OK}, {example(spool(1000)), all, 0, []int{1, 1, 1, 1}, []api.Span{s(5700, 8000), s(11100, 15200), s(15900, 21760)}, api.OK}, {example(spool(999)), all, 0, nil, nil, api.ErrNone},
		// a spool that is just full, and one foot too short
		{example(spool(1900)), all, 0, []int{2, 2}, []api.Span{s(11100, 15200)}, api.OK}, {example(spool(1899)), all, 0, []int{1, 2, 1}, []api.Span{s(5700, 8000), s(15900, 21760)}, api.OK}, {example(spool(3420)), all, 0, []int{4}, nil, api.OK}, {example(spool(3419)), all, 0, []int{3, 1}, []api.Span{s(15900, 21760)}, api.OK}, {example(spool(6000)), all, 0, []int{4}, nil, api.OK},
		// after showings
		{example(spool(999)), all, 1, []int{1, 1, 1, 1}, []api.Span{s(5682, 7992), s(11064, 15184), s(15846, 21736)}, api.OK}, {example(spool(1899)), all, 1, []int{2, 2}, []api.Span{s(11064, 15184)}, api.OK}, {example(spool(1)), all, 999, []int{4}, nil, api.OK}, {example(spool(1)), all, 998, nil, nil, api.ErrNone},
		// what surely is no more counts, not what perhaps is
		{example(spool(1660), tear(0, 50)), []int{2, 3}, 500, []int{2}, nil, api.OK}, {example(spool(1519), tear(0, 50)), []int{2, 3}, 500, []int{1, 1}, []api.Span{s(0, 6560)}, api.OK},
		// reels that do not follow one another, and some of all
		{example(), []int{3, 2, 1, 0}, 0, []int{2, 2}, []api.Span{s(9000, 12160)}, api.OK}, {example(), []int{2, 0}, 0, []int{2}, nil, api.OK}, {example(), []int{2}, 0, []int{1}, nil, api.OK}, {example(torn), all, 0, []int{2, 2}, []api.Span{s(11100, 15200)}, api.OK},
		// only reels of the list are joined
		{example(spool(820)), []int{3, 2}, 0, []int{1, 1}, []api.Span{s(4200, 5600)}, api.OK}, {example(spool(819)), []int{3, 2}, 0, nil, nil, api.ErrNone}, {example(spool(950)), []int{0, 1}, 0, nil, nil, api.ErrNone},
		{example(), nil, 0, nil, nil, api.ErrReelAsk}, {example(), []int{0, 4}, 0, nil, nil, api.ErrReelAsk}, {example(), []int{-1}, 0, nil, nil, api.ErrReelAsk}, {example(), []int{0, 0}, 0, nil, nil, api.ErrReelAsk}, {example(), all, 1000, nil, nil, api.ErrReelAsk}, {example(), all, -1, nil, nil, api.ErrReelAsk},
		// both errors: what is asked is wrong, and a reel is too long
		{example(spool(1)), []int{0, 0}, 0, nil, nil, api.ErrReelAsk}, {example(spool(1)), []int{0, 4}, 0, nil, nil, api.ErrReelAsk}, {example(spool(1)), nil, 0, nil, nil, api.ErrReelAsk}, {example(spool(1)), all, -1, nil, nil, api.ErrReelAsk}, {example(spool(1)), all, 1000, nil, nil, api.ErrReelAsk},
	} {
		if l, e := reel.Spools(x.f, x.l, x.shows); !slices.Equal(l, x.want) || e != x.e {
			t.Errorf("Spools %d: %v, %d", i, l, e)
		}
		if l, e := reel.Changes(x.f, x.l, x.shows); !slices.Equal(l, x.changes) || e != x.e {
			t.Errorf("Changes %d: %v, %d", i, l, e)
		}
	}
}

// P1.9: arguments are only read, what lies behind a list among them.
func TestArgumentsAreRead(t *testing.T) {
	for _, f := range []api.ReelFilm{example(), example(torn), example(spool(1000))} {
		reels := slices.Concat(f.Reels, []api.ReelReel{of(s(7, 8), s(8, 9), s(3, 4))})
		f.Reels = reels[:4]
		numbers := []int{1, 0, 2, 3, 77, 78, 79, 80}
		list := numbers[:4]
		oldReels, oldNumbers := slices.Clone(reels), slices.Clone(numbers)
		for _, c := range calls() {
			c.ask(f, list, 2, 5)
			if !slices.Equal(reels, oldReels) || !slices.Equal(numbers, oldNumbers) {
				t.Errorf("%s changes its arguments: %v, %v", c.name, reels, numbers)
			}
		}
	}
}

// P1.9: a result keeps what it is if an argument or another result is changed.
func TestResultsAreNew(t *testing.T) {
	lists := map[string]func(f api.ReelFilm, list []int) []int{
		"First":   func(f api.ReelFilm, _ []int) []int { l, _ := reel.First(f); return l },
		"Places":  func(f api.ReelFilm, _ []int) []int { l, _ := reel.Places(f, 3); return l },
		"Strange": func(f api.ReelFilm, _ []int) []int { f.Reels[1].Last = s(5, 6); l, _ := reel.Strange(f); return l },
		"Spools":  func(f api.ReelFilm, l []int) []int { l, _ = reel.Spools(f, l, 0); return l },
	}
	for name, ask := range lists {
		f, list := example(), []int{1, 0, 2, 3}
		one := ask(f, list)
		want := slices.Clone(one)
		if len(one) == 0 {
			t.Errorf("%s: nothing to change", name)
		}
		clear(f.Reels)
		clear(list)
		if !slices.Equal(one, want) {
			t.Errorf("%s shares memory with an argument", name)
		}
		two := ask(example(), []int{1, 0, 2, 3})
		for i := range one {
			one[i] = 99
		}
		if again := ask(example(), []int{1, 0, 2, 3}); !slices.Equal(two, want) || !slices.Equal(again, want) {
			t.Errorf("%s: after a change of an earlier result %v, %v, not %v", name, two, again, want)
		}
	}
	list := []int{1, 0, 2, 3}
	one, _ := reel.Changes(example(), list, 0)
	two, _ := reel.Changes(example(), list, 0)
	clear(one)
	if again, _ := reel.Changes(example(), list, 0); !slices.Equal(two, again) || two[0] != s(11100, 15200) {
		t.Errorf("Changes after a change of an earlier result: %v, %v", two, again)
	}
}

// P1: no function panics or goes on for ever, and with an error all else is zero.
func TestAnyArguments(t *testing.T) {
	films := []api.ReelFilm{example(), example(torn), known([2]int{99, 99}), spans([2]api.Span{s(0, 99), s(0, 99)})}
	for _, f := range wrongFilms() {
		films = append(films, f)
	}
	numbers := []int{math.MinInt, -1, 0, 1, 3, 4, 6, 7, 999, 1000, 1200, 1201, math.MaxInt}
	lists := [][]int{nil, {}, {0}, {1, 0}, {3, 2, 1, 0}, {0, 1, 2, 3, 4, 5}, {math.MaxInt}, {math.MinInt}, make([]int, 5000)}
	for _, f := range films {
		for _, c := range calls() {
			for _, l := range lists {
				for _, i := range numbers {
					for _, n := range numbers {
						if got, e := c.ask(f, l, i, n); e != api.OK && got != c.zero {
							t.Fatalf("%s: %s with the error %d", c.name, got, e)
						}
					}
				}
			}
		}
	}
}

// P2: the same arguments have the same result, whatever was called before, and in whatever memory they are; also R3, that a nil list is like an empty one.
func TestSameResults(t *testing.T) {
	r := rand.New(rand.NewPCG(1, 2))
	type question struct {
		f       api.ReelFilm
		l       []int
		i, n    int
		answers []string
	}
	var questions []question
	ask := func(q question) (answers []string) {
		for _, c := range calls() {
			got, e := c.ask(copyOf(q.f), slices.Clone(q.l), q.i, q.n)
			answers = append(answers, got, string(rune('0'+e)))
		}
		return answers
	}
	for range 60 {
		f := someFilm(r)
		q := question{f: f, l: r.Perm(len(f.Reels)), i: r.IntN(len(f.Reels)), n: r.IntN(40)}
		q.answers = ask(q)
		questions = append(questions, q)
	}
	for _, k := range r.Perm(len(questions)) {
		if got := ask(questions[k]); !slices.Equal(got, questions[k].answers) {
			t.Errorf("the question %d: first %v, then %v", k, questions[k].answers, got)
		}
	}
	for _, c := range calls() {
		a, e := c.ask(example(), nil, 0, 1)
		b, g := c.ask(example(), []int{}, 0, 1)
		if a != b || e != g {
			t.Errorf("%s: %s, %d of a nil list; %s, %d of an empty one", c.name, a, e, b, g)
		}
	}
}

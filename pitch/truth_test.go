package pitch_test

import (
	"math/rand/v2"
	"slices"
	"testing"

	"bioscope/api"
	"bioscope/pitch"
)

// grid tells of each cell, by row and column, if it is meant.
type grid [5][6]bool

// covers tells cell by cell what a thing covers in a place, and whether the place is one of it.
func covers(g api.PitchGround, i int, p api.PitchPlace) (covered grid, is bool) {
	wide, deep := g.Things[i].Wide, g.Things[i].Deep
	if p.Turned {
		wide, deep = deep, wide
	}
	if p.Turned && !g.Things[i].Turn {
		return grid{}, false
	}
	for y := p.Y; y < p.Y+deep; y++ {
		for x := p.X; x < p.X+wide; x++ {
			if x < 0 || y < 0 || x >= g.Wide || y >= g.Deep || g.Trees[y]>>x&1 == 1 {
				return grid{}, false
			}
			covered[y][x] = true
		}
	}
	return covered, true
}

// columnsIn and rowsIn are those in which some cell is meant.
func columnsIn(c grid) (l []int) {
	for x := range 6 {
		if slices.ContainsFunc(c[:], func(row [6]bool) bool { return row[x] }) {
			l = append(l, x)
		}
	}
	return l
}

func rowsIn(c grid) (l []int) {
	for y, row := range c {
		if row != ([6]bool{}) {
			l = append(l, y)
		}
	}
	return l
}

// between is how many numbers lie between all of one list and all of the other one.
func between(one, other []int) (n int) {
	for k := range 6 {
		after := k > slices.Max(one) && k < slices.Min(other)
		before := k < slices.Min(one) && k > slices.Max(other)
		if after || before {
			n++
		}
	}
	return n
}

// gapOf is the gap of what two things cover, and whether they have one.
func gapOf(a, b grid) (int, bool) {
	for y := range a {
		for x := range a[y] {
			if a[y][x] && b[y][x] {
				return 0, false
			}
		}
	}
	return max(between(columnsIn(a), columnsIn(b)), between(rowsIn(a), rowsIn(b))), true
}

// besides calls visit with the neighbours of a cell.
func besides(x, y int, visit func(x, y int)) {
	for _, d := range [...][2]int{{1, 0}, {-1, 0}, {0, 1}, {0, -1}} {
		if a, b := x+d[0], y+d[1]; a >= 0 && b >= 0 && a < 6 && b < 5 {
			visit(a, b)
		}
	}
}

// wayOf is how few cells a way has to what a thing covers, if so many are taken, and whether there is one.
func wayOf(g api.PitchGround, to, taken grid) (int, bool) {
	const none = 99
	var steps [5][6]int // how few cells a way has that ends here
	free := func(x, y int) bool { return x < g.Wide && y < g.Deep && g.Trees[y]>>x&1 == 0 && !taken[y][x] }
	for y := range steps {
		for x := range steps[y] {
			steps[y][x] = none
			if y == 0 && free(x, y) {
				steps[y][x] = 1
			}
		}
	}
	for range 30 {
		for y := range steps {
			for x := range steps[y] {
				besides(x, y, func(a, b int) {
					if free(x, y) {
						steps[y][x] = min(steps[y][x], steps[b][a]+1)
					}
				})
			}
		}
	}
	fewest := none
	for y := range to {
		for x := range to[y] {
			if to[y][x] && y == 0 {
				return 0, true
			}
			if to[y][x] {
				besides(x, y, func(a, b int) { fewest = min(fewest, steps[b][a]) })
			}
		}
	}
	if fewest >= none {
		return 0, false
	}
	return fewest, true
}

// takenBy are all cells that some things cover.
func takenBy(all []grid) (taken grid) {
	for _, c := range all {
		for y := range c {
			for x := range c[y] {
				taken[y][x] = taken[y][x] || c[y][x]
			}
		}
	}
	return taken
}

// near tells if what two things cover is not as far apart as it must be.
func near(g api.PitchGround, i int, a grid, k int, b grid) bool {
	gap, ok := gapOf(a, b)
	return !ok || gap < g.Things[i].Rope+g.Things[k].Rope || gap < g.Fire[i][k]
}

// isPitch tells by all cells if places are a pitch.
func isPitch(g api.PitchGround, l []api.PitchPlace) bool {
	if len(l) != len(g.Things) {
		return false
	}
	var all []grid
	for i, p := range l {
		c, is := covers(g, i, p)
		if !is {
			return false
		}
		for k, other := range all {
			if near(g, i, c, k, other) {
				return false
			}
		}
		all = append(all, c)
	}
	return reached(g, all)
}

// reached tells if all things that need a way have one.
func reached(g api.PitchGround, all []grid) bool {
	taken := takenBy(all)
	for i, c := range all {
		if _, some := wayOf(g, c, taken); g.Things[i].Way && !some {
			return false
		}
	}
	return true
}

// columnsOf are the columns from the first to the last one that some thing covers.
func columnsOf(g api.PitchGround, l []api.PitchPlace) int {
	var all []grid
	for i, p := range l {
		c, _ := covers(g, i, p)
		all = append(all, c)
	}
	columns := columnsIn(takenBy(all))
	if len(columns) == 0 {
		return 0
	}
	return columns[len(columns)-1] - columns[0] + 1
}

// placesOf are all places of a thing, in the order of the chapter.
func placesOf(g api.PitchGround, i int) (l []api.PitchPlace) {
	for x := range g.Wide {
		for y := range g.Deep {
			for _, p := range places(at(x, y), turned(x, y)) {
				if _, is := covers(g, i, p); is {
					l = append(l, p)
				}
			}
		}
	}
	return l
}

// eachPitch calls visit with all pitches of a ground, until it returns false.
func eachPitch(g api.PitchGround, visit func(l []api.PitchPlace) bool) {
	var put func(l []api.PitchPlace, all []grid) bool
	put = func(l []api.PitchPlace, all []grid) bool {
		if len(l) == len(g.Things) {
			return !reached(g, all) || visit(slices.Clone(l))
		}
	next:
		for _, p := range placesOf(g, len(l)) {
			c, _ := covers(g, len(l), p)
			for k, other := range all {
				if near(g, len(l), c, k, other) {
					continue next
				}
			}
			if !put(append(slices.Clone(l), p), append(slices.Clone(all), c)) {
				return false
			}
		}
		return true
	}
	put(nil, nil)
}

// fewestColumns are those of a pitch that has the fewest; 0, if there is no pitch.
func fewestColumns(g api.PitchGround) (fewest int) {
	eachPitch(g, func(l []api.PitchPlace) bool {
		if n := columnsOf(g, l); fewest == 0 || n < fewest {
			fewest = n
		}
		return true
	})
	return fewest
}

func hasPitch(g api.PitchGround) (has bool) {
	eachPitch(g, func([]api.PitchPlace) bool {
		has = true
		return false
	})
	return has
}

// sublists are all strictly increasing lists of numbers below many.
func sublists(many int) (all [][]int) {
	for k := range 1 << many {
		var l []int
		for i := range many {
			if k>>i&1 == 1 {
				l = append(l, i)
			}
		}
		all = append(all, l)
	}
	return all
}

// mostOf is the first of the longest lists of things that have a pitch.
func mostOf(g api.PitchGround) (best []int) {
	for _, l := range sublists(len(g.Things)) {
		if len(l) == 0 || len(l) < len(best) || len(l) == len(best) && slices.Compare(l, best) >= 0 {
			continue
		}
		if hasPitch(only(g, l)) {
			best = l
		}
	}
	return best
}

// spotsOf are all places of a thing that are a pitch with those of the others.
func spotsOf(g api.PitchGround, l []api.PitchPlace, i int) (spots []api.PitchPlace) {
	for _, p := range placesOf(g, i) {
		l = slices.Clone(l)
		l[i] = p
		if isPitch(g, l) {
			spots = append(spots, p)
		}
	}
	return spots
}

// somePlaces are a place for each thing, most of them its own, some of them not.
func somePlaces(r *rand.Rand, g api.PitchGround) (l []api.PitchPlace) {
	for i := range g.Things {
		own := placesOf(g, i)
		if len(own) > 0 && r.IntN(12) > 0 {
			l = append(l, own[r.IntN(len(own))])
			continue
		}
		l = append(l, api.PitchPlace{X: r.IntN(10) - 2, Y: r.IntN(9) - 2, Turned: r.IntN(2) == 0})
	}
	return l
}

// somePitch is a pitch of a ground, or else some places; of the first ones that are tried it takes one.
func somePitch(r *rand.Rand, g api.PitchGround) (l []api.PitchPlace, is bool) {
	for range 200 {
		l = somePlaces(r, g)
		if isPitch(g, l) {
			return l, true
		}
	}
	return l, false
}

// P2.1 and P2.2 held against all cells.
func TestPlacesOfSomeGrounds(t *testing.T) {
	r := rand.New(rand.NewPCG(1, 2))
	for range 60 {
		g := someGround(r, 6, 5, 4)
		for i := range g.Things {
			for x := -3; x <= 8; x++ {
				for y := -3; y <= 7; y++ {
					for _, p := range places(at(x, y), turned(x, y)) {
						_, want := covers(g, i, p)
						if is, e := pitch.IsPlace(g, i, p); is != want || e != api.OK {
							t.Fatalf("IsPlace of %v of %d of %+v: %v, %d, not %v", p, i, g, is, e, want)
						}
					}
				}
			}
		}
		for range 100 {
			l := somePlaces(r, g)
			i, k := r.IntN(len(g.Things)), r.IntN(len(g.Things))
			a, isOne := covers(g, i, l[i])
			b, isOther := covers(g, k, l[k])
			want, e := 0, api.ErrPitchAsk
			if i != k && isOne && isOther {
				gap, some := gapOf(a, b)
				want, e = gap, api.OK
				if !some {
					e = api.ErrNone
				}
			}
			if n, f := pitch.Gap(g, i, l[i], k, l[k]); n != want || f != e {
				t.Fatalf("Gap of %d and %d at %v of %+v: %d, %d, not %d, %d", i, k, l, g, n, f, want, e)
			}
		}
	}
}

// wantWay is what Way must return.
func wantWay(g api.PitchGround, l []api.PitchPlace, i int) (int, api.Errno) {
	var all []grid
	for k, p := range l {
		c, is := covers(g, k, p)
		if !is {
			return 0, api.ErrPitchAsk
		}
		for _, other := range all {
			if _, some := gapOf(c, other); !some {
				return 0, api.ErrPitchAsk
			}
		}
		all = append(all, c)
	}
	n, some := wayOf(g, all[i], takenBy(all))
	if !some {
		return 0, api.ErrNone
	}
	return n, api.OK
}

// P2.3 to P2.5 held against all cells, of places that are a pitch, and of such as are none.
func TestPitchesOfSomeGrounds(t *testing.T) {
	r := rand.New(rand.NewPCG(3, 4))
	for range 400 {
		g := someGround(r, 6, 5, 4)
		l := somePlaces(r, g)
		if r.IntN(2) == 0 {
			l, _ = somePitch(r, g)
		}
		if is, e := pitch.IsPitch(g, l); is != isPitch(g, l) || e != api.OK {
			t.Fatalf("IsPitch of %v of %+v: %v, %d", l, g, is, e)
		}
		for i := range g.Things {
			want, f := wantWay(g, l, i)
			if n, e := pitch.Way(g, l, i); n != want || e != f {
				t.Fatalf("Way to %d of %v of %+v: %d, %d, not %d, %d", i, l, g, n, e, want, f)
			}
			spots := spotsOf(g, l, i)
			if got, e := pitch.Spots(g, l, i); !slices.Equal(got, spots) || e != api.OK {
				t.Fatalf("Spots of %d of %v of %+v: %v, %d, not %v", i, l, g, got, e, spots)
			}
		}
	}
}

// checkPitch holds Pitch and Cost against the fewest columns that there are (0, if there is no pitch).
func checkPitch(t *testing.T, g api.PitchGround, columns int) {
	t.Helper()
	want := api.OK
	if columns == 0 {
		want = api.ErrNone
	}
	if n, e := pitch.Cost(g); n != columns*g.Rent || e != want {
		t.Fatalf("Cost of %+v: %d, %d, not %d, %d", g, n, e, columns*g.Rent, want)
	}
	l, e := pitch.Pitch(g)
	if e != want || e != api.OK && len(l) > 0 {
		t.Fatalf("Pitch of %+v: %v, %d, not %d", g, l, e, want)
	}
	if e == api.OK && (!isPitch(g, l) || columnsOf(g, l) != columns) {
		t.Fatalf("Pitch of %+v: %v is one: %v; it has %d columns, not %d", g, l, isPitch(g, l), columnsOf(g, l), columns)
	}
}

// checkMost holds Most against a list (none, if no thing has a pitch).
func checkMost(t *testing.T, g api.PitchGround, list []int) {
	t.Helper()
	want := api.OK
	if len(list) == 0 {
		want = api.ErrNone
	}
	if l, e := pitch.Most(g); !slices.Equal(l, list) || e != want {
		t.Fatalf("Most of %+v: %v, %d, not %v, %d", g, l, e, list, want)
	}
}

// P2.4 and P2.6 held against all pitches that there are.
func TestAllPitches(t *testing.T) {
	r := rand.New(rand.NewPCG(5, 6))
	none := 0
	for range 600 {
		g := someGround(r, 4, 4, 3)
		columns := fewestColumns(g)
		checkPitch(t, g, columns)
		checkMost(t, g, mostOf(g))
		if columns == 0 {
			none++
		}
	}
	for range 300 {
		g := someGround(r, 3, 3, 4)
		checkPitch(t, g, fewestColumns(g))
		checkMost(t, g, mostOf(g))
	}
	if none < 60 || none > 540 {
		t.Errorf("%d of 600 grounds have no pitch", none)
	}
}

// P2.8: whatever pitch things truly have, the one that is told is one, and costs no more.
func TestWhereThingsStand(t *testing.T) {
	r := rand.New(rand.NewPCG(7, 8))
	found := 0
	for range 150 {
		g := someGround(r, 6, 5, 4)
		l, is := somePitch(r, g)
		cost, e := pitch.Cost(g)
		if is && (e != api.OK || cost > columnsOf(g, l)*g.Rent) {
			t.Fatalf("Cost of %+v: %d, %d, but %v has %d columns", g, cost, e, l, columnsOf(g, l))
		}
		told, f := pitch.Pitch(g)
		if f != e {
			t.Fatalf("Pitch of %+v: %d, but Cost: %d", g, f, e)
		}
		if e != api.OK {
			continue
		}
		found++
		if !isPitch(g, told) || columnsOf(g, told)*g.Rent != cost {
			t.Fatalf("Pitch of %+v: %v, at %d", g, told, cost)
		}
		if itIs, e := pitch.IsPitch(g, told); !itIs || e != api.OK {
			t.Fatalf("IsPitch of %v, which Pitch told of %+v: %v, %d", told, g, itIs, e)
		}
	}
	if found < 50 {
		t.Errorf("only %d grounds have a pitch", found)
	}
}

// mirrorPlace is the place in a mirror.
func mirrorPlace(g api.PitchGround, i int, p api.PitchPlace) api.PitchPlace {
	wide := g.Things[i].Wide
	if p.Turned {
		wide = g.Things[i].Deep
	}
	p.X = g.Wide - p.X - wide
	return p
}

// mirror is the ground, and places on it, seen in a mirror.
func mirror(g api.PitchGround, l []api.PitchPlace) (api.PitchGround, []api.PitchPlace) {
	m := copyOf(g)
	for y, row := range g.Trees {
		m.Trees[y] = 0
		for x := range g.Wide {
			m.Trees[y] |= row >> x & 1 << (g.Wide - 1 - x)
		}
	}
	var seen []api.PitchPlace
	for i, p := range l {
		seen = append(seen, mirrorPlace(g, i, p))
	}
	return m, seen
}

// P2.9: a gap is the same both ways, and in a mirror; so is all else.
func TestMirror(t *testing.T) {
	r := rand.New(rand.NewPCG(9, 10))
	for range 150 {
		g := someGround(r, 6, 5, 4)
		l, _ := somePitch(r, g)
		m, seen := mirror(g, l)
		for i := range l {
			for k := range l {
				a, e := pitch.Gap(g, i, l[i], k, l[k])
				b, f := pitch.Gap(g, k, l[k], i, l[i])
				c, h := pitch.Gap(m, i, seen[i], k, seen[k])
				if a != b || e != f || a != c || e != h {
					t.Fatalf("Gap of %d and %d at %v of %+v: %d, %d; %d, %d; %d, %d", i, k, l, g, a, e, b, f, c, h)
				}
			}
			a, e := pitch.Way(g, l, i)
			b, f := pitch.Way(m, seen, i)
			if a != b || e != f {
				t.Fatalf("Way to %d at %v of %+v: %d, %d; in a mirror %d, %d", i, l, g, a, e, b, f)
			}
			spots, _ := pitch.Spots(g, l, i)
			inIt, _ := pitch.Spots(m, seen, i)
			for _, p := range spots {
				if len(spots) != len(inIt) || !slices.Contains(inIt, mirrorPlace(g, i, p)) {
					t.Fatalf("Spots of %d at %v of %+v: %v; in a mirror %v", i, l, g, spots, inIt)
				}
			}
		}
		a, e := pitch.Cost(g)
		b, f := pitch.Cost(m)
		if a != b || e != f {
			t.Fatalf("Cost of %+v: %d, %d; in a mirror %d, %d", g, a, e, b, f)
		}
		is, _ := pitch.IsPitch(g, l)
		if inIt, _ := pitch.IsPitch(m, seen); is != inIt {
			t.Fatalf("IsPitch of %v of %+v: %v; in a mirror %v", l, g, is, inIt)
		}
		most, _ := pitch.Most(g)
		if inIt, _ := pitch.Most(m); !slices.Equal(most, inIt) {
			t.Fatalf("Most of %+v: %v; in a mirror %v", g, most, inIt)
		}
	}
}

// P2.9: things that are moved together have the same gap.
func TestMovedTogether(t *testing.T) {
	r := rand.New(rand.NewPCG(11, 12))
	for range 300 {
		g := bare(6, 5, thing(1+r.IntN(3), 1+r.IntN(3), r.IntN(4), true, false), thing(1+r.IntN(3), 1+r.IntN(3), 0, true, false))
		l := somePlaces(r, g)
		want, e := pitch.Gap(g, 0, l[0], 1, l[1])
		for x := -5; x <= 5; x++ {
			for y := -4; y <= 4; y++ {
				a, b := l[0], l[1]
				a.X, a.Y, b.X, b.Y = a.X+x, a.Y+y, b.X+x, b.Y+y
				if _, is := covers(g, 0, a); !is {
					continue
				}
				if _, is := covers(g, 1, b); !is || e == api.ErrPitchAsk {
					continue
				}
				if n, f := pitch.Gap(g, 0, a, 1, b); n != want || f != e {
					t.Fatalf("Gap at %v of %+v: %d, %d; moved by %d and %d: %d, %d", l, g, want, e, x, y, n, f)
				}
			}
		}
	}
}

// without is a list without what is at a number.
func without[T any](l []T, i int) []T { return slices.Delete(slices.Clone(l), i, i+1) }

// treeLess is the ground without one of its trees, if it has one.
func treeLess(r *rand.Rand, g api.PitchGround) api.PitchGround {
	g = copyOf(g)
	for _, y := range r.Perm(g.Deep) {
		for _, x := range r.Perm(g.Wide) {
			if g.Trees[y]>>x&1 == 1 {
				g.Trees[y] -= 1 << x
				return g
			}
		}
	}
	return g
}

// P2.10: without a tree, or without another thing, no way gets longer.
func TestShorterWays(t *testing.T) {
	r := rand.New(rand.NewPCG(13, 14))
	for range 400 {
		g := someGround(r, 6, 5, 4)
		l, _ := somePitch(r, g)
		for i := range l {
			n, e := pitch.Way(g, l, i)
			if e != api.OK {
				continue
			}
			if less, f := pitch.Way(treeLess(r, g), l, i); less > n || f != api.OK {
				t.Fatalf("Way to %d at %v of %+v: %d; without a tree %d, %d", i, l, g, n, less, f)
			}
			for k := range l {
				if k == i {
					continue
				}
				rest := without(numbers(len(l)), k)
				if less, f := pitch.Way(only(g, rest), without(l, k), slices.Index(rest, i)); less > n || f != api.OK {
					t.Fatalf("Way to %d at %v of %+v: %d; without %d %d, %d", i, l, g, n, k, less, f)
				}
			}
		}
	}
}

// numbers are those below many.
func numbers(many int) (l []int) {
	for i := range many {
		l = append(l, i)
	}
	return l
}

// looser are grounds of which less is asked.
func looser(r *rand.Rand, g api.PitchGround) map[string]api.PitchGround {
	rope, rule := copyOf(g), copyOf(g)
	i, k := r.IntN(len(g.Things)), r.IntN(len(g.Things))
	rope.Things[i].Rope = max(0, rope.Things[i].Rope-1)
	fire(i, k, max(0, g.Fire[i][k]-1))(&rule)
	return map[string]api.PitchGround{"a tree less": treeLess(r, g), "a shorter Rope": rope, "less Fire": rule}
}

// P2.11: all spots are a pitch each, no others are; and there are no fewer if less is asked.
func TestMoreSpots(t *testing.T) {
	r := rand.New(rand.NewPCG(15, 16))
	for range 250 {
		g := someGround(r, 6, 5, 4)
		l, _ := somePitch(r, g)
		i := r.IntN(len(l))
		spots, e := pitch.Spots(g, l, i)
		right(t, "Spots", e)
		for _, p := range placesOf(g, i) {
			put := slices.Clone(l)
			put[i] = p
			is, e := pitch.IsPitch(g, put)
			right(t, "IsPitch", e)
			if is != slices.Contains(spots, p) {
				t.Fatalf("Spots of %d at %v of %+v: %v, but %v is a pitch: %v", i, l, g, spots, p, is)
			}
		}
		for what, better := range looser(r, g) {
			more, e := pitch.Spots(better, l, i)
			right(t, "Spots", e)
			checkMore(t, what, spots, more)
		}
		if len(l) == 1 {
			continue
		}
		k := (i + 1 + r.IntN(len(l)-1)) % len(l)
		rest := without(numbers(len(l)), k)
		more, e := pitch.Spots(only(g, rest), without(l, k), slices.Index(rest, i))
		right(t, "Spots", e)
		checkMore(t, "a thing less", spots, more)
	}
}

func checkMore(t *testing.T, what string, spots, more []api.PitchPlace) {
	t.Helper()
	for _, p := range spots {
		if !slices.Contains(more, p) {
			t.Fatalf("Spots: %v, but with %s %v", spots, what, more)
		}
	}
}

// P2.12: the things that are told have a pitch, more of them have none, and with one less there still is one.
func TestWhatCanBePlaced(t *testing.T) {
	r := rand.New(rand.NewPCG(17, 18))
	cut := 0
	for range 150 {
		g := someGround(r, 6, 4, 4)
		most, e := pitch.Most(g)
		if e == api.ErrNone {
			most = nil
		}
		for _, l := range sublists(len(g.Things)) {
			if len(l) == 0 {
				continue
			}
			told, f := pitch.Pitch(only(g, l))
			if f == api.OK && (len(l) > len(most) || !isPitch(only(g, l), told)) {
				t.Fatalf("Most of %+v: %v, but of %v: %v", g, most, l, told)
			}
			if f != api.OK && isPart(l, most) {
				t.Fatalf("Most of %+v: %v, but of %v: %d", g, most, l, f)
			}
		}
		if len(most) < len(g.Things) {
			cut++
		}
	}
	if cut < 20 {
		t.Errorf("on only %d grounds not all things stand", cut)
	}
}

// isPart tells if all of a list is in another one.
func isPart(l, of []int) bool {
	return !slices.ContainsFunc(l, func(i int) bool { return !slices.Contains(of, i) })
}

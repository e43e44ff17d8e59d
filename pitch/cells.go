package pitch

import "bioscope/api"

// cells is a set of columns for each row; the zero value has none.
type cells [api.PitchDeep]int

// cellsThat returns all cells of which is tells that they are meant.
func cellsThat(is func(x, y int) bool) cells {
	var all cells
	for y := range api.PitchDeep {
		for x := range api.PitchWide {
			if is(x, y) {
				all[y] |= 1 << x
			}
		}
	}
	return all
}

// none reports whether there is no cell.
func (c cells) none() bool { return c == (cells{}) }

func (c cells) and(other cells) cells {
	for y := range len(c) {
		c[y] |= other[y]
	}
	return c
}

func (c cells) common(other cells) cells {
	for y := range len(c) {
		c[y] &= other[y]
	}
	return c
}

// grown returns cells with all of their neighbours; some of these may lie beside the ground.
func (c cells) grown() cells {
	all := c
	for y := range len(c) {
		all[y] |= c[y]<<1 | c[y]>>1
		if y > 0 {
			all[y] |= c[y-1]
		}
		if y+1 < len(c) {
			all[y] |= c[y+1]
		}
	}
	return all
}

// floor is a ground on which some cells are taken, by trees or by things.
type floor struct {
	wide, deep int
	taken      cells
}

func (f floor) isFree(x, y int) bool {
	return x < f.wide && y < f.deep && f.taken[y]>>x&1 == 0
}

// way returns how few cells a way has to a thing that covers some cells, and whether there is one.
func way(to, free cells) (fewest int, some bool) {
	if to[0] != 0 {
		return 0, true
	}
	beside := to.grown()
	reached := cells{free[0]}
	for fewest = 1; reached.common(beside).none(); fewest++ {
		further := reached.grown().common(free)
		if further == reached {
			return 0, false
		}
		reached = further
	}
	return fewest, true
}

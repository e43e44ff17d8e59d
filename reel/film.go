package reel

import "bioscope/api"

// reelBounds is between what the spans First, Last and Feet of a reel lie.
var reelBounds = [...]api.Span{
	{Low: 0, High: api.ReelScene},
	{Low: 0, High: api.ReelScene},
	{Low: 1, High: api.ReelFeet},
}

// filmBounds is between what the spans Turn and Tear of a film lie.
var filmBounds = [...]api.Span{
	{Low: 1, High: api.ReelTurn},
	{Low: 0, High: api.ReelTear},
}

// film is a valid film, with the scenes with which reels can end where that was found out already.
type film struct {
	api.ReelFilm
	found map[step]scenes
}

// know returns a film for the calculation, if it is valid.
func know(f api.ReelFilm) (film, api.Errno) {
	if e := Check(f); e != api.OK {
		return film{}, e
	}
	return film{ReelFilm: f, found: map[step]scenes{}}, api.OK
}

func isFilm(f api.ReelFilm) bool {
	if len(f.Reels) < 1 || len(f.Reels) > api.ReelReels {
		return false
	}
	for _, r := range f.Reels {
		if !isReel(r) {
			return false
		}
	}
	for i, s := range [...]api.Span{f.Turn, f.Tear} {
		if !isSpan(s, filmBounds[i]) {
			return false
		}
	}
	return f.Spool >= 1 && f.Spool <= api.ReelSpool
}

func isReel(r api.ReelReel) bool {
	for i, s := range [...]api.Span{r.First, r.Last, r.Feet} {
		if !isSpan(s, reelBounds[i]) {
			return false
		}
	}
	return r.First.Low <= r.Last.High
}

func isSpan(s, within api.Span) bool {
	return within.Low <= s.Low && s.Low <= s.High && s.High <= within.High
}

func areShows(shows int) bool { return shows >= 0 && shows <= api.ReelShows }

func (f film) hasReel(reel int) bool { return reel >= 0 && reel < len(f.Reels) }

// areReels reports whether a list has numbers of reels, each at most once.
func (f film) areReels(list []int) bool {
	var seen set
	for _, reel := range list {
		if !f.hasReel(reel) || seen[reel] {
			return false
		}
		seen[reel] = true
	}
	return true
}

// isOrderAsked reports whether it can be asked of a list if it is an order.
func (f film) isOrderAsked(list []int) bool { return len(list) > 0 && f.areReels(list) }

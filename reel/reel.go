// Package reel knows a film by its reels: in which orders they can be, which of them must be of another film, how many feet showings leave of them, how long they last, and on which spools they are joined.
package reel

import (
	"slices"

	"bioscope/api"
)

// Check returns ErrReel unless f is a valid film.
func Check(f api.ReelFilm) api.Errno {
	if !isFilm(f) {
		return api.ErrReel
	}
	return api.OK
}

// IsOrder reports whether reels can follow one another as they are listed.
func IsOrder(f api.ReelFilm, order []int) (bool, api.Errno) {
	k, e := know(f)
	if e != api.OK {
		return false, e
	}
	if !k.isOrderAsked(order) {
		return false, api.ErrReelAsk
	}
	return k.isOrder(order), api.OK
}

// Orders returns how many orders of all reels there are.
func Orders(f api.ReelFilm) (int, api.Errno) {
	k, e := know(f)
	if e != api.OK {
		return 0, e
	}
	many := 0
	for range k.orders() {
		many++
	}
	return many, api.OK
}

// First returns the first order of all reels, compared element by element.
func First(f api.ReelFilm) ([]int, api.Errno) {
	k, e := know(f)
	if e != api.OK {
		return nil, e
	}
	for order := range k.orders() {
		return slices.Clone(order), api.OK
	}
	return nil, api.ErrNone
}

// Places returns all places at which a reel is in some order of all reels.
func Places(f api.ReelFilm, reel int) ([]int, api.Errno) {
	k, e := know(f)
	if e != api.OK {
		return nil, e
	}
	if !k.hasReel(reel) {
		return nil, api.ErrReelAsk
	}
	places := k.places(reel)
	if places == (set{}) {
		return nil, api.ErrNone
	}
	return places.list(), api.OK
}

// Strange returns the fewest reels without which the others have an order.
func Strange(f api.ReelFilm) ([]int, api.Errno) {
	k, e := know(f)
	if e != api.OK {
		return nil, e
	}
	return k.strange(), api.OK
}

// Worn returns between what lies how many feet a reel has after some showings.
func Worn(f api.ReelFilm, reel, shows int) (api.Span, api.Errno) {
	k, e := know(f)
	if e != api.OK {
		return api.Span{}, e
	}
	if !k.hasReel(reel) || !areShows(shows) {
		return api.Span{}, api.ErrReelAsk
	}
	return k.worn(reel, shows), api.OK
}

// Shows returns after how many showings a reel surely, and perhaps, still has so many feet.
func Shows(f api.ReelFilm, reel, feet int) (surely, perhaps int, e api.Errno) {
	k, e := know(f)
	if e != api.OK {
		return 0, 0, e
	}
	if !k.hasReel(reel) || feet < 1 || feet > api.ReelFeet {
		return 0, 0, api.ErrReelAsk
	}
	if feet > k.Reels[reel].Feet.High {
		return 0, 0, api.ErrNone
	}
	least, most := ends()
	return k.serves(reel, feet, least), k.serves(reel, feet, most), api.OK
}

// Seen returns the least and the greatest number of showings that can leave a reel just so many feet.
func Seen(f api.ReelFilm, reel, feet int) (api.Span, api.Errno) {
	k, e := know(f)
	if e != api.OK {
		return api.Span{}, e
	}
	if !k.hasReel(reel) || feet < 0 || feet > api.ReelFeet {
		return api.Span{}, api.ErrReelAsk
	}
	seen, some := k.seen(reel, feet)
	if !some {
		return api.Span{}, api.ErrNone
	}
	return seen, api.OK
}

// Lasts returns between what lies how many tenths of a second reels together last after some showings.
func Lasts(f api.ReelFilm, reels []int, shows int) (api.Span, api.Errno) {
	k, e := know(f)
	if e != api.OK {
		return api.Span{}, e
	}
	if !k.areReels(reels) || !areShows(shows) {
		return api.Span{}, api.ErrReelAsk
	}
	return k.lasts(reels, shows), api.OK
}

// Spools returns how many reels of a list each spool has.
func Spools(f api.ReelFilm, order []int, shows int) ([]int, api.Errno) {
	k, e := know(f)
	if e != api.OK {
		return nil, e
	}
	if !k.isOrderAsked(order) || !areShows(shows) {
		return nil, api.ErrReelAsk
	}
	return k.spools(order, shows)
}

// Changes returns for each spool but the last one between what lies how many tenths of a second after the beginning it is over.
func Changes(f api.ReelFilm, order []int, shows int) ([]api.Span, api.Errno) {
	k, e := know(f)
	if e != api.OK {
		return nil, e
	}
	if !k.isOrderAsked(order) || !areShows(shows) {
		return nil, api.ErrReelAsk
	}
	spools, e := k.spools(order, shows)
	if e != api.OK {
		return nil, e
	}
	return k.changes(order, spools, shows), api.OK
}

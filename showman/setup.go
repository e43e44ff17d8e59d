package showman

import (
	"slices"

	"bioscope/api"
	"bioscope/licence"
	"bioscope/reel"
	"bioscope/till"
	"bioscope/train"
)

func isSetup(s api.ShowmanSetup) bool {
	return areFilms(s.Films) && areNames(s.Names, len(s.Films)) &&
		train.Check(s.Table) == api.OK && areNames(s.Stations, len(s.Table.Offices)) &&
		licence.Check(s.Town) == api.OK && isBox(s) &&
		s.Purse >= 0 && s.Purse <= api.TillMoney
}

func areFilms(films []api.ReelFilm) bool {
	if len(films) < 1 || len(films) > api.ShowmanFilms {
		return false
	}
	for _, f := range films {
		if reel.Check(f) != api.OK {
			return false
		}
	}
	return true
}

// areNames reports whether a list has so many names, each another one.
func areNames(list []string, many int) bool {
	if len(list) != many {
		return false
	}
	for i, name := range list {
		if !isName(name) || slices.Contains(list[:i:i], name) {
			return false
		}
	}
	return true
}

func isName(text string) bool {
	for i := range len(text) {
		c := text[i]
		isLetter, isDigit := c >= 'a' && c <= 'z', c >= '0' && c <= '9'
		if !isLetter && (i == 0 || !isDigit) {
			return false
		}
	}
	return len(text) >= 1 && len(text) <= api.MaxName
}

// isBox reports whether the box of a setup is valid. That of very many prices is not made at all.
func isBox(s api.ShowmanSetup) bool {
	return len(s.Prices) <= api.TillRolls && till.Check(boxOf(s)) == api.OK
}

// boxOf returns the box of a setup, of which nothing is sold.
func boxOf(s api.ShowmanSetup) api.TillBox {
	return api.TillBox{
		Rolls: each(s.Prices, unsold), Free: s.Free,
		Err: s.Err, Duty: s.Duty, Share: s.Share, Guarantee: s.Guarantee,
	}
}

func unsold(price int) api.TillRoll { return api.TillRoll{Price: price} }

// copyOf returns a setup that shares no memory with another one.
func copyOf(s api.ShowmanSetup) api.ShowmanSetup {
	s.Films = each(s.Films, copyOfFilm)
	s.Names, s.Stations = copied(s.Names), copied(s.Stations)
	s.Table.Offices, s.Table.Trains = each(s.Table.Offices, copied[api.Span]), each(s.Table.Trains, copyOfTrain)
	s.Town.Kinds, s.Town.Barred, s.Town.Held = copied(s.Town.Kinds), copied(s.Town.Barred), copied(s.Town.Held)
	s.Prices, s.Free = copied(s.Prices), copied(s.Free)
	return s
}

func copyOfFilm(f api.ReelFilm) api.ReelFilm {
	f.Reels = copied(f.Reels)
	return f
}

func copyOfTrain(x api.TrainTrain) api.TrainTrain {
	x.Stops = copied(x.Stops)
	return x
}

// copied returns a copy of a list.
func copied[E any](list []E) []E { return append([]E(nil), list...) }

// more returns a copy of a list with an element more.
func more[E any](list []E, last E) []E {
	many := len(list)
	return append(list[:many:many], last)
}

// each returns what a function makes of each element of a list.
func each[E, F any](list []E, made func(E) F) (all []F) {
	for _, one := range list {
		all = append(all, made(one))
	}
	return all
}

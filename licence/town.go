package licence

import "bioscope/api"

// townBounds is between what lie how many Kinds a town has, its Pause, how many Barred spans it has, its Forbidden films, its Close, and how many licences it has Held.
var townBounds = [...]api.Span{
	{Low: 1, High: api.LicenceKinds},
	{Low: 0, High: api.LicencePause},
	{Low: 0, High: api.LicenceSpans},
	{Low: 0, High: 1<<api.LicenceFilms - 1},
	{Low: 0, High: api.LicenceMinute},
	{Low: 0, High: api.LicenceHeld},
}

// kindBounds is between what lie the Days, the Fee and the Notice of a kind.
var kindBounds = [...]api.Span{
	{Low: 1, High: api.LicenceDays},
	{Low: 0, High: api.LicenceFee},
	{Low: 0, High: api.LicenceDays},
}

// town is one for the calculation.
type town struct{ api.LicenceTown }

// know returns a town for the calculation, if it is valid.
func know(t api.LicenceTown) (town, api.Errno) {
	k := town{t}
	if !k.isTown() {
		return town{}, api.ErrLicence
	}
	return k, api.OK
}

func (t town) isTown() bool {
	for i, n := range [...]int{len(t.Kinds), t.Pause, len(t.Barred), t.Forbidden, t.Close, len(t.Held)} {
		if !isWithin(n, townBounds[i]) {
			return false
		}
	}
	return t.areKinds() && t.areBarred() && t.areHeld()
}

func (t town) areKinds() bool {
	for _, k := range t.Kinds {
		for i, n := range [...]int{k.Days, k.Fee, k.Notice} {
			if !isWithin(n, kindBounds[i]) {
				return false
			}
		}
	}
	return true
}

func (t town) areBarred() bool {
	behind := 0
	for _, s := range t.Barred {
		if !areDays(s) || s.Low < behind {
			return false
		}
		behind = s.High + 1
	}
	return true
}

// areHeld reports whether the held licences are some, in whatever order, that go together.
func (t town) areHeld() bool {
	for i, p := range t.Held {
		if !t.isPaper(p) || !t.goTogether(p, t.Held[:i:i]) {
			return false
		}
	}
	return true
}

func isWithin(n int, within api.Span) bool { return within.Low <= n && n <= within.High }

func isDay(n int) bool { return n >= 0 && n <= api.MaxDay }

func isMinute(n int) bool { return n >= 0 && n <= api.LicenceMinute }

func isFilm(n int) bool { return n >= 0 && n < api.LicenceFilms }

// areDays reports whether a span is one of days.
func areDays(s api.Span) bool { return s.Low <= s.High && isDay(s.Low) && isDay(s.High) }

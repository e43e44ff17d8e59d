package licence

import "bioscope/api"

// How surely an evening is over in time.
const (
	notOver = iota
	perhapsOver
	surelyOver
)

// showing is one of a film that is over in a minute of a day.
type showing struct{ day, film, minute int }

func (t town) isWithoutLicence(x showing) bool { return !t.isCovered(x.day, t.Held) }

func (t town) isShut(x showing) bool { return t.isBarred(x.day) }

func (t town) forbids(x showing) bool { return t.Forbidden>>x.film&1 == 1 }

func (t town) isTooLate(x showing) bool { return x.minute > t.Close }

// why returns the first reason why a film may not be shown.
func (t town) why(x showing) int {
	for _, reason := range [...]struct {
		why   int
		holds func(town, showing) bool
	}{
		{api.LicenceDay, town.isWithoutLicence},
		{api.LicenceBarred, town.isShut},
		{api.LicenceFilm, town.forbids},
		{api.LicenceHour, town.isTooLate},
	} {
		if reason.holds(t, x) {
			return reason.why
		}
	}
	return api.LicenceFine
}

// open returns those of a span of days on which something may be shown with the held licences.
func (t town) open(s api.Span) (l []int) {
	for day := range days(s) {
		if t.isOpen(day, t.Held) {
			l = append(l, day)
		}
	}
	return l
}

// over returns how surely an evening that begins in a minute is over in time.
func (t town) over(begin int, lasts api.Span) int {
	switch {
	case sum(begin, lasts.High) <= t.Close:
		return surelyOver
	case sum(begin, lasts.Low) <= t.Close:
		return perhapsOver
	}
	return notOver
}

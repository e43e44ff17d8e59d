package showman

import (
	"bioscope/api"
	"bioscope/licence"
	"bioscope/till"
	"bioscope/train"
)

// film returns the number of the film that the line names first.
func (t *task) film() int { return finder(t.setup.Names)(t.names[0])[0] }

// fromToday returns the day that the line tells, which is not below today.
func (t *task) fromToday() int {
	day := t.numbers[0]
	refuseIf(day < t.day || day > api.MaxDay, api.ErrRange)
	return day
}

// showing returns the show of today of which the line tells.
func (t *task) showing() api.ShowmanShow {
	film, minute := t.film(), t.numbers[0]
	refuseIf(minute > api.LicenceMinute, api.ErrRange)
	return api.ShowmanShow{Day: t.day, Film: film, Minute: minute}
}

// why returns why a show may not be.
func (t *task) why(x api.ShowmanShow) int {
	return granted(licence.Why(t.town(), x.Day, x.Film, x.Minute))
}

// minute returns the minute of the timetable that the line tells.
func (t *task) minute() int {
	n := t.numbers[0]
	refuseIf(n > api.TrainMinute, api.ErrRange)
	return n
}

// way returns two other stations of some names, and the minute of the timetable.
func (t *task) way(names []string) (from, to, minute int) {
	ends := finder(t.setup.Stations)(names...)
	refuseIf(ends[0] == ends[1], api.ErrRange)
	return ends[0], ends[1], t.minute()
}

// turn lets days go by.
func (t *task) turn() string {
	t.day = t.fromToday()
	return tell(t.day)
}

func (t *task) show() string {
	x := t.showing()
	refuseIf(t.away[x.Film], api.ErrShowmanAway)
	refuseIf(t.why(x) != api.LicenceFine, api.ErrShowmanNot)
	many := t.manyShows()
	refuseIf(many == len(t.shows), api.ErrFull)
	t.shows[many] = x
	t.showings[x.Film]++
	return tell(t.showings[x.Film])
}

// pay pays for a licence.
func (t *task) pay() string {
	p := api.LicencePaper{Kind: t.numbers[0], First: t.numbers[1]}
	refuseIf(p.Kind >= len(t.setup.Town.Kinds) || p.First > api.MaxDay, api.ErrRange)
	is := granted(licence.IsPlan(t.town(), t.day, []api.LicencePaper{p}))
	refuseIf(!is, api.ErrShowmanNot)
	refuseIf(len(t.licences) == api.LicenceHeld, api.ErrFull)
	fee := t.setup.Town.Kinds[p.Kind].Fee
	refuseIf(fee > t.purse, api.ErrShowmanMoney)
	t.licences = more(t.licences, p)
	t.purse -= fee
	return tell(t.purse)
}

func (t *task) send() string {
	film := t.film()
	from, to, minute := t.way(t.names[1:])
	refuseIf(t.away[film], api.ErrShowmanAway)
	there := granted(train.Surely(t.setup.Table, from, to, minute))
	t.away[film] = true
	return tell(there)
}

func (t *task) get() string {
	film := t.film()
	refuseIf(!t.away[film], api.ErrShowmanAway)
	t.away[film] = false
	return tell(t.showings[film])
}

// settle closes the pay box.
func (t *task) settle() string {
	count, ends := t.numbers[0], t.numbers[1:]
	refuseIf(count > api.TillMoney, api.ErrRange)
	for roll, end := range ends {
		refuseIf(end < t.tickets[roll] || end > api.TillTickets, api.ErrRange)
	}
	left, e := till.Left(t.box(count, ends))
	refuseIf(e != api.OK, api.ErrShowmanFalse)
	copy(t.tickets[:], ends)
	t.purse += left.Low
	return tell(left.Low, left.High)
}

// renew begins a roll again.
func (t *task) renew() string {
	roll := t.numbers[0]
	refuseIf(roll >= len(t.setup.Prices), api.ErrRange)
	t.tickets[roll] = 0
	return tell(roll)
}

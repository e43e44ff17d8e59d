package showman

import (
	"strconv"
	"strings"

	"bioscope/api"
	"bioscope/licence"
	"bioscope/reel"
	"bioscope/train"
)

// none is the answer without parts.
const none = "-"

// say returns the answer that has some parts.
func say(parts ...string) string {
	if len(parts) == 0 {
		return none
	}
	return strings.Join(parts, string(blank))
}

// tell returns the answer that has some numbers.
func tell(numbers ...int) string { return say(each(numbers, strconv.Itoa)...) }

func (t *task) tellWhy() string { return tell(t.why(t.showing())) }

func (t *task) tellDays() string {
	days := api.Span{Low: t.day, High: t.fromToday()}
	return tell(granted(licence.Days(t.town(), days))...)
}

func (t *task) tellFee() string {
	first, last := t.numbers[0], t.numbers[1]
	refuseIf(first < t.day || last < first || last > api.MaxDay || last >= first+api.LicenceWanted, api.ErrRange)
	var wanted []int
	for i := range last - first + 1 {
		wanted = append(wanted, first+i)
	}
	return tell(granted(licence.Fee(t.town(), t.day, wanted)))
}

func (t *task) tellOrder() string {
	return tell(granted(reel.First(t.setup.Films[t.film()]))...)
}

func (t *task) tellLasts() string {
	film := t.film()
	var reels []int
	for i := range t.setup.Films[film].Reels {
		reels = append(reels, i)
	}
	lasts := granted(reel.Lasts(t.setup.Films[film], reels, t.showings[film]))
	return tell(lasts.Low, lasts.High)
}

func (t *task) tellSpools() string {
	film := t.film()
	order := granted(reel.First(t.setup.Films[film]))
	return tell(granted(reel.Spools(t.setup.Films[film], order, t.showings[film]))...)
}

func (t *task) tellRoute() string {
	from, to, minute := t.way(t.names)
	var numbers []int
	for _, leg := range granted(train.Best(t.setup.Table, from, to, minute)) {
		numbers = append(numbers, leg.Train, leg.From, leg.To)
	}
	return tell(numbers...)
}

func (t *task) tellReach() string {
	from := finder(t.setup.Stations)(t.names[0])[0]
	return tell(granted(train.Reach(t.setup.Table, from, t.minute()))...)
}

func (t *task) tellAway() string {
	return say(each(t.away.numbers(), func(film int) string { return t.setup.Names[film] })...)
}

func (t *task) tellTickets() string { return tell(t.nextTickets()...) }

func (t *task) tellPurse() string { return tell(t.purse) }

func (t *task) tellToday() string { return tell(t.day) }

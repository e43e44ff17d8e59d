package bill

import (
	"cmp"
	"sort"

	"bioscope/api"
	"bioscope/licence"
)

// evening is one of a book that begins in a minute.
type evening struct {
	book
	at int
}

// start is a film, and when it begins, in tenths of a second of the day: a film behind another one need not begin with a minute.
type start struct{ film, begin int }

// ending is a film, and the minute in which it is over, which can be one of the next day.
type ending struct{ film, minute int }

// side tells one of the two ends of what is known.
type side func(api.Span) int

func least(s api.Span) int { return s.Low }

func most(s api.Span) int { return s.High }

// knowEvening returns the evening of a bill that begins in a minute, if all of that is valid.
func knowEvening(b api.BillBook, bill []int, at int) (evening, api.Errno) {
	k, e := know(b)
	if e != api.OK {
		return evening{}, e
	}
	if !k.isBill(bill) || !isMinute(at) {
		return evening{}, api.ErrBillAsk
	}
	return evening{k, at}, api.OK
}

// opening stands for what is before the first film of a bill: no film, and the minute in which the evening begins.
func (v evening) opening() start { return start{film: -1, begin: v.at * minute} }

// next returns when a film begins behind another one, or as the first one, if all films and pauses are as short, or as long, as can be.
func (v evening) next(before start, film int, known side) start {
	begin := before.begin
	if before != v.opening() {
		begin += known(v.lasts[before.film]) + known(v.Pause)*minute
	}
	return start{film, greatest(begin, v.Films[film].From*minute)}
}

// starts returns when each film of a bill begins, as next does.
func (v evening) starts(bill []int, known side) []start {
	starts := make([]start, len(bill))
	before := v.opening()
	for i, film := range bill {
		before = v.next(before, film, known)
		starts[i] = before
	}
	return starts
}

// ending returns in which minute a film is over: the first one that does not begin before its end.
func (k book) ending(s start, known side) ending {
	end := s.begin + known(k.lasts[s.film])
	return ending{s.film, (end + minute - 1) / minute}
}

func (v evening) ends(bill []int) []api.Span {
	soonest, latest := v.starts(bill, least), v.starts(bill, most)
	ends := make([]api.Span, len(bill))
	for i := range ends {
		ends[i] = api.Span{Low: v.ending(soonest[i], least).minute, High: v.ending(latest[i], most).minute}
	}
	return ends
}

func (k book) townIsAgainst(x ending) int {
	// There is no error: all that is asked is valid.
	why, _ := licence.Why(k.Town, k.Day, k.Films[x.film].Film, min(x.minute, api.LicenceMinute))
	return why
}

func (k book) nightIsAgainst(x ending) int {
	if x.minute > api.LicenceMinute {
		return api.LicenceHour
	}
	return api.LicenceFine
}

func (k book) filmIsAgainst(x ending) int {
	if x.minute > k.Films[x.film].Until {
		return api.BillUntil
	}
	return api.LicenceFine
}

// reason returns the first reason why a film may not be shown that begins then, and lasts as long as it can.
func (k book) reason(s start) int {
	if why, ok := k.found[s]; ok {
		return why
	}
	reason := api.LicenceFine
	for _, against := range [...]func(book, ending) int{book.townIsAgainst, book.nightIsAgainst, book.filmIsAgainst} {
		reason = against(k, k.ending(s, most))
		if reason != api.LicenceFine {
			break
		}
	}
	k.found[s] = reason
	return reason
}

func (v evening) why(bill []int) []int {
	why := make([]int, len(bill))
	for i, s := range v.starts(bill, most) {
		why[i] = v.reason(s)
	}
	return why
}

// isFine reports whether all films of a bill are fine, whatever is true: they are if they are when all lasts as long as it can.
func (v evening) isFine(bill []int) bool {
	for _, s := range v.starts(bill, most) {
		if v.reason(s) != api.LicenceFine {
			return false
		}
	}
	return true
}

// latest returns the last minute in which a bill can begin: if it is fine it also is when it begins sooner.
func (k book) latest(bill []int) (int, api.Errno) {
	minutes := sort.Search(api.LicenceMinute+1, func(at int) bool { return !evening{k, at}.isFine(bill) })
	if minutes == 0 {
		return 0, api.ErrNone
	}
	return minutes - 1, api.OK
}

func greatest[N cmp.Ordered](first N, others ...N) N {
	for _, n := range others {
		first = max(first, n)
	}
	return first
}

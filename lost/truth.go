package lost

import (
	"cmp"
	"iter"
	"math"

	"bioscope/api"
)

// phase is how far a leg is made in a minute.
type phase int

const (
	before phase = iota // its train did not leave yet
	during              // the box is on its train
	behind              // its train arrived
)

// phases is how far a leg is made in each minute that is looked at.
type phases [api.LostSights + 1]phase

// ride is a leg, and between what its train is late.
type ride struct {
	api.TrainLeg
	late api.Span
}

// track is where a box is in each minute that is looked at.
type track [api.LostSights + 1]place

// truth is all truths with the same journey that are the same in each minute that is looked at. In one of them the trains of all rides are late by Low; with High the next one can be missed.
type truth struct {
	rides []ride
	track track
}

// phasesOf returns how far a leg is made if its train is so late.
func (k book) phasesOf(leg api.TrainLeg, late int) (p phases) {
	leaves, arrives := k.from(leg).Leave+late, k.to(leg).Arrive+late
	for i, minute := range k.minutes {
		switch {
		case minute < leaves:
			p[i] = before
		case minute < arrives:
			p[i] = during
		default:
			p[i] = behind
		}
	}
	return p
}

// learn keeps the rides that a leg can be: how late the train of one is makes no difference in the minutes that are looked at.
func (k book) learn(leg api.TrainLeg) {
	late := k.Table.Trains[leg.Train].Late
	low, now := late.Low, k.phasesOf(leg, late.Low)
	for n := late.Low; n <= late.High; n++ {
		next := k.phasesOf(leg, n+1)
		if n < late.High && next == now {
			continue
		}
		r := ride{leg, api.Span{Low: low, High: n}}
		k.rides[leg] = append(k.rides[leg], r)
		k.phases[r] = now
		low, now = n+1, next
	}
}

// truths produces all truths with a journey.
func (k book) truths(legs []api.TrainLeg) iter.Seq[truth] {
	return func(yield func(truth) bool) {
		var further func(t truth, loaded int) bool
		further = func(t truth, loaded int) bool {
			many := len(t.rides)
			if many == len(legs) {
				return yield(t)
			}
			for _, r := range k.rides[legs[many]] {
				gone := k.goOn(t.track, r)
				r.late.Low = greatest(r.late.Low, loaded-k.from(r.TrainLeg).Leave)
				if r.late.Low > r.late.High {
					continue
				}
				if !further(truth{append(t.rides[:many:many], r), gone}, k.to(r.TrainLeg).Arrive+r.late.Low+k.Table.Load) {
					return false
				}
			}
			return true
		}
		further(truth{track: k.rest()}, k.At+k.Table.Load)
	}
}

// rest returns where a box is that goes nowhere.
func (k book) rest() (t track) {
	for i := range t {
		t[i] = at(k.From)
	}
	return t
}

// goOn returns where a box is that makes a further ride.
func (k book) goOn(t track, r ride) track {
	for i, p := range k.phases[r] {
		switch p {
		case during:
			t[i] = on(r.Train)
		case behind:
			t[i] = at(k.to(r.TrainLeg).Station)
		}
	}
	return t
}

// isSo reports whether a sight is right in a truth.
func (k book) isSo(sight int, t truth) bool {
	s := k.Sights[sight]
	return k.says[sight](t.track[sight], s.Who) == s.Seen
}

// wrongIn returns all sights that are not right in a truth.
func (k book) wrongIn(t truth) (wrong []int) {
	for sight := range k.Sights {
		if !k.isSo(sight, t) {
			wrong = append(wrong, sight)
		}
	}
	return wrong
}

func (k book) isRight(t truth) bool {
	for sight := range k.Sights {
		if !k.isSo(sight, t) {
			return false
		}
	}
	return true
}

// lateIn returns between what a train is late in a truth.
func (k book) lateIn(t truth, train int) api.Span {
	leaves := math.MaxInt // behind the last ride there is no train to be missed
	for i := len(t.rides) - 1; i >= 0; i-- {
		r := t.rides[i]
		r.late.High = min(r.late.High, leaves-k.Table.Load-k.to(r.TrainLeg).Arrive)
		if r.Train == train {
			return r.late
		}
		leaves = k.from(r.TrainLeg).Leave + r.late.High
	}
	return k.Table.Trains[train].Late
}

// greatest returns the greatest of some numbers.
func greatest[N cmp.Ordered](first N, others ...N) N {
	for _, n := range others {
		if n > first {
			first = n
		}
	}
	return first
}

package relay

import (
	"iter"
	"math"
	"slices"

	"bioscope/api"
)

// plans produces all plans, the first one first, compared element by element; each list is only good until the next one.
func (k book) plans() iter.Seq[[]int] {
	return func(yield func([]int) bool) {
		var plan [api.ReelReels]int
		var try func(trips, rest int) bool
		try = func(trips, rest int) bool {
			if rest == 0 {
				return yield(plan[:trips:trips])
			}
		nextTrip:
			for trip := 1; trip <= k.Carry; trip++ {
				if trip > rest {
					break nextTrip
				}
				plan[trips] = trip
				if !try(trips+1, rest-trip) {
					return false
				}
			}
			return true
		}
		try(0, len(k.order))
	}
}

// offer is a plan, and the least second in which the second tent can begin with it so that surely nobody waits.
type offer struct {
	plan  []int
	start int
}

// never is a second that is later than each one in which surely nobody waits.
const never = math.MaxInt

// choice tells in which second the second tent begins, and which of two plans is the better one for it.
type choice struct {
	start    int
	isBetter func(one, other offer) bool
}

// choose returns the best plan with which surely nobody waits, the first one of several; ErrNone if there is none.
func (k book) choose(c choice) ([]int, api.Errno) {
	var best offer
	for plan := range k.plans() {
		o := offer{plan, k.surely(plan)}
		if o.start > c.start || best.plan != nil && !c.isBetter(o, best) {
			continue
		}
		best = offer{slices.Clone(plan), o.start}
	}
	if best.plan == nil {
		return nil, api.ErrNone
	}
	return best.plan, api.OK
}

// isSooner reports whether the second tent can begin sooner with an offer, or as soon with fewer trips.
func isSooner(one, other offer) bool {
	if one.start != other.start {
		return one.start < other.start
	}
	return isShorter(one, other)
}

func isShorter(one, other offer) bool { return len(one.plan) < len(other.plan) }

func isLighter(one, other offer) bool { return heaviest(one.plan) < heaviest(other.plan) }

// heaviest returns how many reels the greatest trip of a plan has; none has fewer than one.
func heaviest(plan []int) int { return greatest(1, plan...) }

// load returns how many reels the boy must be able to carry so that surely nobody waits if the second tent begins in a second.
func (k book) load(start int) (int, api.Errno) {
	k.Carry = api.RelayCarry
	plan, e := k.choose(choice{start: start, isBetter: isLighter})
	if e != api.OK {
		return 0, e
	}
	return heaviest(plan), api.OK
}

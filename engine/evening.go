package engine

import "bioscope/api"

// bookBounds is between what lie Bunker, Tank, Scoop, Pail and Lamp of an evening, and how many Parts it has.
var bookBounds = [...]api.Span{
	{Low: 1, High: api.EngineHold},
	{Low: 1, High: api.EngineHold},
	{Low: 1, High: api.EngineLoad},
	{Low: 1, High: api.EngineLoad},
	{Low: 0, High: api.EngineLamp},
	{Low: 1, High: api.EngineParts},
}

// evening is a valid one, with where its coal and its water are kept.
type evening struct {
	api.EngineBook
	stores [2]store
}

// know returns an evening for the calculation, if it is valid.
func know(b api.EngineBook) (evening, api.Errno) {
	if e := Check(b); e != api.OK {
		return evening{}, e
	}
	return eveningOf(b), api.OK
}

// eveningOf returns an evening for the calculation: a valid one, or one that is like it but for fewer parts, or a longer one.
func eveningOf(b api.EngineBook) evening {
	k := evening{EngineBook: b}
	for i, storeOf := range [...]func(evening) store{ofCoal: evening.bunker, ofWater: evening.tank} {
		k.stores[i] = storeOf(k)
	}
	return k
}

func isEvening(b api.EngineBook) bool {
	for i, n := range [...]int{b.Bunker, b.Tank, b.Scoop, b.Pail, b.Lamp, len(b.Parts)} {
		if !isWithin(n, bookBounds[i]) {
			return false
		}
	}
	return areSpans(b.Bunker, b.Coal) && areSpans(b.Tank, b.Water) &&
		areSpans(api.EngineRate, b.Burn[:]...) && areSpans(api.EngineRate, b.Drink[:]...) &&
		areCurrents(b) && isWithin(b.Mark, api.Span{Low: 0, High: b.Tank}) && areParts(b.Parts)
}

// areSpans reports whether spans lie between 0 and the most that they can be.
func areSpans(most int, spans ...api.Span) bool {
	for _, s := range spans {
		if !isSpan(s, api.Span{Low: 0, High: most}) {
			return false
		}
	}
	return true
}

func areCurrents(b api.EngineBook) bool {
	return areSpans(api.EngineLamp, b.Full, b.Weak) && b.Weak.Low <= b.Full.Low && b.Weak.High <= b.Full.High
}

func areParts(parts []api.EnginePart) bool {
	for _, p := range parts {
		if !isSpan(p.Minutes, api.Span{Low: 1, High: api.EngineLong}) || !isWithin(p.Walks, api.Span{Low: 0, High: api.EngineWalk}) {
			return false
		}
	}
	return true
}

func isSpan(s, within api.Span) bool {
	return within.Low <= s.Low && s.Low <= s.High && s.High <= within.High
}

func isWithin(n int, within api.Span) bool { return within.Low <= n && n <= within.High }

func (k evening) hasPart(part int) bool { return part >= 0 && part < len(k.Parts) }

// isPlan reports whether walks are a plan.
func (k evening) isPlan(plan []api.EngineWalks) bool {
	if len(plan) != len(k.Parts) {
		return false
	}
	for part, w := range plan {
		walks := k.Parts[part].Walks
		// No sum is made of numbers that may be too great for one.
		if w.Coal < 0 || w.Coal > walks || w.Water < 0 || w.Water > walks-w.Coal {
			return false
		}
	}
	return true
}

// current returns between what lies the current with so much water.
func (k evening) current(water int) api.Span {
	if water < k.Mark {
		return k.Weak
	}
	return k.Full
}

package regex

import "winnower/api"

const (
	maxText   = 1 << 10 // bytes of a text
	maxWeight = 1 << 10
	maxWithin = 4  // Repeats within one another
	noEnd     = -1 // the High of a Repeat that has none
)

// Is tells whether it may be.
func Is(r api.Re) bool {
	_, may := textOf(r)
	return may
}

// textOf is the text of an expression, and whether the expression may be.
func textOf(r api.Re) (string, bool) {
	var s scale
	weight, may := s.weigh(r, 1, 0)
	if !may || weight > maxWeight {
		return "", false
	}
	text := appendRe(nil, r)
	if len(text) > maxText {
		return "", false
	}
	return string(text), true
}

// scale counts the nodes that it is given.
type scale struct {
	nodes int
}

// weigh is the weight of a node that is so deep and stands within so many Repeats; false, if it or one below it may not be.
// It turns back at the first that is too many or too deep: neither a huge expression nor one whose lists hold themselves keeps it, and no weight grows past an int.
func (s *scale) weigh(r api.Re, deep, within int) (int, bool) {
	s.nodes++
	if r.Kind == api.ReRepeat {
		within++
	}
	if s.nodes > api.MaxNodes || deep > api.MaxDeep || within > maxWithin || !formed(r) {
		return 0, false
	}
	kids := 0
	for _, kid := range r.Kids {
		weight, may := s.weigh(kid, deep+1, within)
		if !may {
			return 0, false
		}
		kids += weight
	}
	if r.Kind == api.ReRepeat {
		kids *= max(r.Low, r.High, 1)
	}
	return 1 + kids, true
}

// formed tells whether a node has what its Kind names and nothing else, whatever its Kids are.
func formed(r api.Re) bool {
	noSet, noTimes := r.Set == api.Set{}, r.Low == 0 && r.High == 0
	switch r.Kind {
	case api.ReEmpty:
		return noSet && noTimes && len(r.Kids) == 0
	case api.ReClass:
		return !noSet && noTimes && len(r.Kids) == 0
	case api.ReSeq, api.ReAlt:
		return noSet && noTimes && len(r.Kids) >= 2
	case api.ReRepeat:
		return noSet && mayRepeat(r.Low, r.High) && len(r.Kids) == 1
	}
	return false
}

// mayRepeat tells whether a Repeat may have these ends.
func mayRepeat(low, high int) bool {
	if low < 0 || low > api.MaxRepeat {
		return false
	}
	return high == noEnd || high >= max(low, 1) && high <= api.MaxRepeat
}

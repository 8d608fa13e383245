package dfa

import (
	"math/bits"

	"winnower/api"
	"winnower/class"
	"winnower/glush"
)

// none is no place; as a state's places it stands for state 0, at which no byte was read: no byte leads there.
const none = 0

// Build is an automaton of places.
func Build(g glush.Glush) (api.Dfa, api.Errno) {
	if !known(g) {
		return api.Dfa{}, api.ErrArg
	}
	b := begin(g)
	// More states are met while this goes on.
	for state := 0; state < len(b.states); state++ {
		if len(b.states) > api.MaxStates {
			return api.Dfa{}, api.ErrLarge
		}
		b.lead(state)
	}
	return b.made, api.OK
}

// known tells whether all places that are named are there.
func known(g glush.Glush) bool {
	n := len(g.Sets)
	if n != len(g.Follow) || n > api.MaxKids {
		return false
	}
	named := g.First | g.Last
	for _, follow := range g.Follow {
		named |= follow
	}
	// Moved by all its bits a word is 0.
	return named>>n == 0
}

// builder numbers states as they are met.
type builder struct {
	glush.Glush
	having [256]uint64    // of each byte the places that have it
	states []uint64       // of each state its places
	number map[uint64]int // of places their state
	made   api.Dfa        // the states that were gone on from
}

func begin(g glush.Glush) *builder {
	b := &builder{Glush: g, states: []uint64{none}, number: map[uint64]int{}}
	for n, s := range g.Sets {
		for _, c := range class.List(s) {
			b.having[c] |= 1 << n
		}
	}
	return b
}

// lead goes on from a state by all bytes.
func (b *builder) lead(state int) {
	places := b.states[state]
	next, ends := b.behind(places), places&b.Last != 0
	if state == 0 {
		next, ends = b.First, b.Null
	}
	var row [256]int
	for c := range row {
		row[c] = b.at(next & b.having[c])
	}
	b.made.Next = append(b.made.Next, row)
	b.made.Ends = append(b.made.Ends, ends)
}

// behind is the places that may come right behind any of some.
func (b *builder) behind(places uint64) uint64 {
	var next uint64
	for ; places != 0; places &= places - 1 {
		next |= b.Follow[bits.TrailingZeros64(places)]
	}
	return next
}

// at is the state at some places, a new one if they were not met yet.
func (b *builder) at(places uint64) int {
	if places == none {
		return nowhere
	}
	n, met := b.number[places]
	if !met {
		n = len(b.states)
		b.states = append(b.states, places)
		b.number[places] = n
	}
	return n
}

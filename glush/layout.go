package glush

import (
	"math/bits"

	"winnower/api"
)

// piece is what is told of a part of an expression whose places are laid: whether the empty text is one of its texts, and at which places one may begin and end.
type piece struct {
	null        bool
	first, last uint64
}

// layout is places that are laid from the left, of each its Set and those that may come right behind it.
type layout struct {
	sets   []api.Set
	follow []uint64
}

// lay lays all places of an expression that has no more than a word has bits.
func (l *layout) lay(r api.Re) piece {
	switch r.Kind {
	case api.ReClass:
		return l.place(r.Set)
	case api.ReSeq:
		return l.row(r.Kids)
	case api.ReAlt:
		return l.either(r.Kids)
	case api.ReRepeat:
		return l.repeat(r)
	}
	return piece{null: true}
}

// place lays one place.
func (l *layout) place(s api.Set) piece {
	bit := uint64(1) << len(l.sets)
	l.sets = append(l.sets, s)
	l.follow = append(l.follow, 0)
	return piece{first: bit, last: bit}
}

// row lays expressions one behind the other.
func (l *layout) row(list []api.Re) piece {
	all := piece{null: true}
	for _, r := range list {
		all = l.join(all, l.lay(r))
	}
	return all
}

// either lays expressions of which any one may stand.
func (l *layout) either(list []api.Re) piece {
	var all piece
	for _, r := range list {
		one := l.lay(r)
		all.null = all.null || one.null
		all.first |= one.first
		all.last |= one.last
	}
	return all
}

// repeat lays the copies of a Repeat's Kid.
func (l *layout) repeat(r api.Re) piece {
	kid := r.Kids[0]
	if r.High != -1 {
		ahead := l.copies(kid, r.Low)
		return l.join(ahead, l.within(kid, r.High-r.Low))
	}
	// What stands again and again is the last of the Low copies, or, of none, one that may be left out.
	ahead := l.copies(kid, r.Low-1)
	again := l.lay(kid)
	l.link(again.last, again.first)
	again.null = again.null || r.Low == 0
	return l.join(ahead, again)
}

// copies lays an expression n times (below 0: none), one behind the other.
func (l *layout) copies(r api.Re, n int) piece {
	all := piece{null: true}
	for range n {
		all = l.join(all, l.lay(r))
	}
	return all
}

// within lays an expression n times, each copy within the one ahead: what stands in one that is left out is left out too.
func (l *layout) within(r api.Re, n int) piece {
	if n == 0 {
		return piece{null: true}
	}
	one := l.lay(r)
	all := l.join(one, l.within(r, n-1))
	all.null = true
	return all
}

// join is two pieces, one behind the other.
func (l *layout) join(a, b piece) piece {
	l.link(a.last, b.first)
	all := piece{null: a.null && b.null, first: a.first, last: b.last}
	if a.null {
		all.first |= b.first
	}
	if b.null {
		all.last |= a.last
	}
	return all
}

// link lets some places follow right behind others.
func (l *layout) link(from, to uint64) {
	for ; from != 0; from &= from - 1 {
		l.follow[bits.TrailingZeros64(from)] |= to
	}
}

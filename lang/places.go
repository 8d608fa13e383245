package lang

import (
	"slices"

	"winnower/api"
	"winnower/class"
)

// place is a place in an expression that is written out. From an open one all of next are reached as they are, from another one by a byte of set.
type place struct {
	open bool
	set  api.Set
	next []int
}

// behindAll is the place behind the whole expression; no byte leads on from it.
const behindAll = 0

// layout is all places of an expression.
type layout struct {
	places []place
}

// add lays one more place, and tells which it is.
func (l *layout) add(p place) int {
	l.places = append(l.places, p)
	return len(l.places) - 1
}

// lay writes an expression out, so that its texts lead to the place behind, and tells where it begins.
func (l *layout) lay(r api.Re, behind int) int {
	switch r.Kind {
	case api.ReClass:
		return l.add(place{set: r.Set, next: []int{behind}})
	case api.ReSeq:
		for _, kid := range slices.Backward(r.Kids) {
			behind = l.lay(kid, behind)
		}
	case api.ReAlt:
		var next []int
		for _, kid := range r.Kids {
			next = append(next, l.lay(kid, behind))
		}
		return l.add(place{open: true, next: next})
	case api.ReRepeat:
		return l.repeat(r, behind)
	}
	return behind
}

// repeat writes a Repeat out in just as many copies of its Kid as its weight (chapter 6) counts: that bounds how many places there are.
func (l *layout) repeat(r api.Re, behind int) int {
	kid := r.Kids[0]
	if r.High != -1 {
		start := behind
		for range r.High - r.Low {
			start = l.add(place{open: true, next: []int{l.lay(kid, start), behind}})
		}
		return l.copies(kid, r.Low, start)
	}
	again := l.add(place{open: true})
	start := l.lay(kid, again)
	l.places[again].next = []int{start, behind}
	if r.Low == 0 {
		return again
	}
	// What stands again and again is the last of the Low copies.
	return l.copies(kid, r.Low-1, start)
}

// copies writes an expression out n times, one behind the other.
func (l *layout) copies(r api.Re, n, behind int) int {
	for range n {
		behind = l.lay(r, behind)
	}
	return behind
}

// walk is the set of places that the bytes taken so far lead to. All of them go along at once, and each is in it once: Repeats within one another, and what may be empty, cost no more than other places.
type walk struct {
	layout
	here    []int  // the places that are not open
	spare   []int  // memory for those that are next
	reached []bool // of each place whether it is in the set
}

// begin is the walk that has taken nothing.
func begin(r api.Re) *walk {
	var w walk
	w.add(place{})
	start := w.lay(r, behindAll)
	w.reached = make([]bool, len(w.places))
	w.enter(start)
	return &w
}

// enter adds a place, and all to which open ones lead from it.
func (w *walk) enter(at int) {
	if w.reached[at] {
		return
	}
	w.reached[at] = true
	p := &w.places[at]
	if !p.open {
		w.here = append(w.here, at)
		return
	}
	for _, next := range p.next {
		w.enter(next)
	}
}

// step takes a byte.
func (w *walk) step(b byte) {
	from := w.here
	w.here = w.spare[:0]
	clear(w.reached)
	for _, at := range from {
		if p := &w.places[at]; class.Has(p.set, b) {
			w.enter(p.next[0])
		}
	}
	w.spare = from
}

// done tells whether what was taken is a text.
func (w *walk) done() bool { return w.reached[behindAll] }

// lost tells whether nothing that begins with what was taken is a text.
func (w *walk) lost() bool { return len(w.here) == 0 }

package class_test

import (
	"math/rand"
	"testing"

	"winnower/api"
	"winnower/class"
)

// setsOf is the sets of plain ones.
func setsOf(list []plain) []api.Set {
	sets := make([]api.Set, len(list))
	for i, p := range list {
		sets[i] = p.set()
	}
	return sets
}

// anyOf is what is in any of a list, allOf what is in all of it.
func anyOf(list []plain) plain {
	return plainIf(func(b int) bool { return countIn(list, b) > 0 })
}

func allOf(list []plain) plain {
	return plainIf(func(b int) bool { return countIn(list, b) == len(list) })
}

func countIn(list []plain, b int) int {
	n := 0
	for _, p := range list {
		if p[b] {
			n++
		}
	}
	return n
}

// P5.1
func TestJoinAndMeetOfNone(t *testing.T) {
	none, all := plain{}, plainRange(0, 255)
	none.wants(t, "Join()", class.Join())
	none.wants(t, "Join(nil)", class.Join(nil...))
	none.wants(t, "Join of an empty list", class.Join([]api.Set{}...))
	all.wants(t, "Meet()", class.Meet())
	all.wants(t, "Meet(nil)", class.Meet(nil...))
	all.wants(t, "Meet of an empty list", class.Meet([]api.Set{}...))
}

// P5.1
func TestJoinAndMeetOfOne(t *testing.T) {
	for i, p := range plains() {
		p.wants(t, i, class.Join(p.set()))
		p.wants(t, i, class.Meet(p.set()))
	}
}

// P5.1
func TestJoinAndMeetWithNoneAndAll(t *testing.T) {
	none, all := plain{}, plainRange(0, 255)
	for i, p := range plains() {
		s, n, a := p.set(), none.set(), all.set()
		p.wants(t, i, class.Join(s, n))
		p.wants(t, i, class.Join(n, s, n))
		all.wants(t, i, class.Join(s, a))
		all.wants(t, i, class.Join(a, n, s))
		p.wants(t, i, class.Meet(s, a))
		p.wants(t, i, class.Meet(a, s, a))
		none.wants(t, i, class.Meet(s, n))
		none.wants(t, i, class.Meet(n, a, s))
		p.wants(t, i, class.Join(s, s))
		p.wants(t, i, class.Meet(s, s, s))
		all.wants(t, i, class.Join(s, class.Not(s)))
		none.wants(t, i, class.Meet(s, class.Not(s)))
	}
}

// P5.1: of two, of edges in any word.
func TestJoinAndMeetOfTwo(t *testing.T) {
	for _, a := range edges {
		for _, b := range edges {
			list := []plain{plainRange(a, 255), plainRange(0, b)}
			anyOf(list).wants(t, []byte{a, b}, class.Join(setsOf(list)...))
			allOf(list).wants(t, []byte{a, b}, class.Meet(setsOf(list)...))
			anyOf([]plain{plainOf(a), plainOf(b)}).wants(t, []byte{a, b}, class.Join(class.Of(a), class.Of(b)))
			allOf([]plain{plainOf(a), plainOf(b)}).wants(t, []byte{a, b}, class.Meet(class.Of(a), class.Of(b)))
		}
	}
}

// P5.1
func TestJoinAndMeetOfMany(t *testing.T) {
	samples := plains()
	r := rand.New(rand.NewSource(2))
	for turn := range 500 {
		list := make([]plain, 2+r.Intn(9))
		for i := range list {
			list[i] = samples[r.Intn(len(samples))]
		}
		anyOf(list).wants(t, turn, class.Join(setsOf(list)...))
		allOf(list).wants(t, turn, class.Meet(setsOf(list)...))
	}
	anyOf(samples).wants(t, "all samples", class.Join(setsOf(samples)...))
	allOf(samples).wants(t, "all samples", class.Meet(setsOf(samples)...))
	var alone, without []plain
	for b := range 200 {
		alone = append(alone, plainOf(byte(b)))
		without = append(without, plainIf(func(c int) bool { return c != b }))
	}
	plainRange(0, 199).wants(t, "of one byte each", class.Join(setsOf(alone)...))
	plainRange(200, 255).wants(t, "without one byte each", class.Meet(setsOf(without)...))
}

// P5.1
func TestNot(t *testing.T) {
	plainRange(0, 255).wants(t, "of none", class.Not(api.Set{}))
	plain{}.wants(t, "of all", class.Not(class.Range(0, 255)))
	for i, p := range plains() {
		s := p.set()
		plainIf(func(b int) bool { return !p[b] }).wants(t, i, class.Not(s))
		p.wants(t, i, class.Not(class.Not(s)))
		p.wants(t, i, s)
	}
}

// P5.1: Not of what is joined is where all Nots meet.
func TestNotOfJoinAndMeet(t *testing.T) {
	samples := setsOf(plains())
	for i, a := range samples[:400] {
		b := samples[len(samples)-1-i]
		if class.Not(class.Join(a, b)) != class.Meet(class.Not(a), class.Not(b)) ||
			class.Not(class.Meet(a, b)) != class.Join(class.Not(a), class.Not(b)) {
			t.Errorf("%x and %x", a, b)
		}
	}
}

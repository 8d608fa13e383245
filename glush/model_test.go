package glush_test

import (
	"fmt"
	"math/rand"
	"strings"
	"testing"

	"winnower/api"
	"winnower/class"
	"winnower/glush"
	"winnower/regex"
)

// Expressions, put together by hand.

func empty() api.Re { return api.Re{} }

func of(s api.Set) api.Re { return api.Re{Kind: api.ReClass, Set: s} }

func one(b byte) api.Re { return of(class.Of(b)) }

func seq(l ...api.Re) api.Re { return api.Re{Kind: api.ReSeq, Kids: l} }

func alt(l ...api.Re) api.Re { return api.Re{Kind: api.ReAlt, Kids: l} }

func rep(r api.Re, low, high int) api.Re {
	return api.Re{Kind: api.ReRepeat, Kids: []api.Re{r}, Low: low, High: high}
}

func star(r api.Re) api.Re { return rep(r, 0, -1) }

// row is n times the same, one behind the other.
func row(n int, r api.Re) api.Re {
	l := make([]api.Re, n)
	for i := range l {
		l[i] = r
	}
	return seq(l...)
}

// parse is the expression of a text that is one.
func parse(t *testing.T, s string) api.Re {
	t.Helper()
	r, at, e := regex.Parse(s)
	if e != api.OK {
		t.Fatalf("Parse(%q): error %d at %d", s, e, at)
	}
	return r
}

// places is an expression's places.
func places(t *testing.T, r api.Re) glush.Glush {
	t.Helper()
	g, e := glush.Of(r)
	if e != api.OK {
		t.Fatalf("Of(%s): error %d", regex.Print(r), e)
	}
	return g
}

// row64 is the numbers of a word's bits in words, each behind a blank.
func row64(word uint64) string {
	var b strings.Builder
	for n := range 64 {
		if word>>n&1 == 1 {
			fmt.Fprintf(&b, " %d", n)
		}
	}
	return b.String()
}

// tell is what is told of places, but for their sets, in words: Null or not, First, Last, each Follow.
func tell(g glush.Glush) string {
	var b strings.Builder
	if g.Null {
		b.WriteString("null")
	}
	b.WriteString(";" + row64(g.First) + ";" + row64(g.Last) + ";")
	for n, follow := range g.Follow {
		if n > 0 {
			b.WriteString(",")
		}
		b.WriteString(row64(follow))
	}
	return b.String()
}

// graph is an expression that is written out, as points and ways between them: ways that take nothing, and places, each from one point to another.
type graph struct {
	free [][]int // of each point where the ways that take nothing lead
	from []int   // of each place its points
	to   []int
	sets []api.Set
}

func (g *graph) point() int {
	g.free = append(g.free, nil)
	return len(g.free) - 1
}

func (g *graph) way(from, to int) { g.free[from] = append(g.free[from], to) }

// write writes an expression out from a point on, by chapter 8's words, and tells the point behind it.
func (g *graph) write(r api.Re, from int) int {
	to := g.point()
	switch r.Kind {
	case api.ReEmpty:
		g.way(from, to)
	case api.ReClass:
		g.from, g.to, g.sets = append(g.from, from), append(g.to, to), append(g.sets, r.Set)
	case api.ReSeq:
		for _, kid := range r.Kids {
			from = g.write(kid, from)
		}
		g.way(from, to)
	case api.ReAlt:
		for _, kid := range r.Kids {
			own := g.point()
			g.way(from, own)
			g.way(g.write(kid, own), to)
		}
	case api.ReRepeat:
		g.times(r, from, to)
	}
	return to
}

func (g *graph) times(r api.Re, from, to int) {
	kid := r.Kids[0]
	again := from // the point ahead of what may stand again and again
	for range r.Low {
		// A point of its own, so that the way back leads to this copy alone.
		again = g.point()
		g.way(from, again)
		from = g.write(kid, again)
	}
	if r.High == -1 && r.Low == 0 {
		again = g.point()
		g.way(from, again)
		end := g.write(kid, again)
		g.way(end, again)
		g.way(again, to)
		return
	}
	if r.High == -1 {
		g.way(from, again)
	}
	for n := r.Low; n < r.High; n++ {
		g.way(from, to)
		from = g.write(kid, from)
	}
	g.way(from, to)
}

// reached is all points to which ways that take nothing lead.
func (g *graph) reached(from int) map[int]bool {
	in := map[int]bool{from: true}
	for open := []int{from}; len(open) > 0; {
		at := open[0]
		open = open[1:]
		for _, to := range g.free[at] {
			if !in[to] {
				in[to] = true
				open = append(open, to)
			}
		}
	}
	return in
}

// begins is the places that come right behind a point.
func (g *graph) begins(at int) uint64 {
	in := g.reached(at)
	var word uint64
	for n, from := range g.from {
		if in[from] {
			word |= 1 << n
		}
	}
	return word
}

// model is an expression's places, by what the ways of its graph lead to.
func model(r api.Re) glush.Glush {
	var g graph
	start := g.point()
	end := g.write(r, start)
	m := glush.Glush{Null: g.reached(start)[end], First: g.begins(start), Sets: g.sets}
	for n, to := range g.to {
		m.Follow = append(m.Follow, g.begins(to))
		if g.reached(to)[end] {
			m.Last |= 1 << n
		}
	}
	return m
}

// plainSize is how many places there are, of an expression whose Size is not far too great.
func plainSize(r api.Re) int {
	switch r.Kind {
	case api.ReClass:
		return 1
	case api.ReRepeat:
		times := r.High
		if times == -1 {
			times = r.Low
		}
		if times < 1 {
			times = 1
		}
		return times * plainSize(r.Kids[0])
	}
	n := 0
	for _, kid := range r.Kids {
		n += plainSize(kid)
	}
	return n
}

// wantsModel holds all that is told of an expression that may be against the model.
func wantsModel(t *testing.T, r api.Re) {
	t.Helper()
	size := plainSize(r)
	if got := glush.Size(r); got != min(size, 1000) {
		t.Errorf("Size(%s) = %d, want %d", regex.Print(r), got, min(size, 1000))
	}
	g, e := glush.Of(r)
	if size > api.MaxKids {
		if e != api.ErrLarge || tell(g) != ";;;" || len(g.Sets) != 0 {
			t.Errorf("Of(%s): error %d, %v", regex.Print(r), e, g)
		}
		return
	}
	m := model(r)
	if e != api.OK || tell(g) != tell(m) {
		t.Errorf("Of(%s): error %d, %s, want %s", regex.Print(r), e, tell(g), tell(m))
	}
	wantsSets(t, r, g, m.Sets...)
}

// wantsSets holds the Sets of places.
func wantsSets(t *testing.T, r api.Re, g glush.Glush, want ...api.Set) {
	t.Helper()
	if len(g.Sets) != len(want) {
		t.Errorf("Of(%s): %d Sets, want %d", regex.Print(r), len(g.Sets), len(want))
		return
	}
	for n, s := range want {
		if g.Sets[n] != s {
			t.Errorf("Of(%s): place %d has %x, want %x", regex.Print(r), n, g.Sets[n], s)
		}
	}
}

// match tells whether a text is one, by places alone (P8.2): it goes from place to place, each way for itself.
func match(g glush.Glush, s string) bool {
	if s == "" {
		return g.Null
	}
	return leads(g, g.First, s)
}

func leads(g glush.Glush, from uint64, s string) bool {
	for n, set := range g.Sets {
		if from>>n&1 == 0 || !class.Has(set, s[0]) {
			continue
		}
		if len(s) == 1 && g.Last>>n&1 == 1 || len(s) > 1 && leads(g, g.Follow[n], s[1:]) {
			return true
		}
	}
	return false
}

// eachText calls for each text of some bytes that has at most so many.
func eachText(bytes string, most int, call func(s string)) {
	call("")
	if most == 0 {
		return
	}
	for i := range len(bytes) {
		eachText(bytes, most-1, func(s string) { call(bytes[i:i+1] + s) })
	}
}

// anyRe is an expression by chance, at most so deep, of few bytes.
func anyRe(r *rand.Rand, deep int) api.Re {
	kind := r.Intn(8)
	if deep <= 1 {
		kind = r.Intn(3)
	}
	switch kind {
	case 0:
		return empty()
	case 1, 2:
		return []api.Re{one('a'), one('b'), of(class.Of('a', 'b')), of(class.Not(class.Of('a'))), of(class.Range(0, 255))}[r.Intn(5)]
	case 3, 4, 5:
		kids := make([]api.Re, 2+r.Intn(2))
		for i := range kids {
			kids[i] = anyRe(r, deep-1)
		}
		if kind == 3 {
			return alt(kids...)
		}
		return seq(kids...)
	}
	low := r.Intn(4)
	return rep(anyRe(r, deep-1), low, []int{-1, max(low, 1), low + 1, low + 2}[r.Intn(4)])
}

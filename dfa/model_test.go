package dfa_test

import (
	"fmt"
	"math/rand"
	"slices"
	"strings"
	"testing"

	"winnower/api"
	"winnower/class"
	"winnower/dfa"
	"winnower/glush"
	"winnower/regex"
)

// parse is the expression of a text that is one.
func parse(t *testing.T, s string) api.Re {
	t.Helper()
	r, at, e := regex.Parse(s)
	if e != api.OK {
		t.Fatalf("Parse(%q): error %d at %d", s, e, at)
	}
	return r
}

// places is the places of a text's expression.
func places(t *testing.T, s string) glush.Glush {
	t.Helper()
	g, e := glush.Of(parse(t, s))
	if e != api.OK {
		t.Fatalf("Of(%q): error %d", s, e)
	}
	return g
}

// build is the automaton of a text's expression.
func build(t *testing.T, s string) api.Dfa {
	t.Helper()
	d, e := dfa.Build(places(t, s))
	if e != api.OK {
		t.Fatalf("Build(%q): error %d", s, e)
	}
	return d
}

// empties is n states that lead nowhere, and at which one may not end.
func empties(n int) api.Dfa {
	d := api.Dfa{Next: make([][256]int, n), Ends: make([]bool, n)}
	for i := range d.Next {
		for b := range d.Next[i] {
			d.Next[i][b] = -1
		}
	}
	return d
}

// clone is the same in new memory.
func clone(d api.Dfa) api.Dfa {
	return api.Dfa{Next: slices.Clone(d.Next), Ends: slices.Clone(d.Ends)}
}

// tell is an automaton in words: of each state `!`, if one may end there, and where it leads, neighbours that lead to the same as one.
func tell(d api.Dfa) string {
	var b strings.Builder
	for i, row := range d.Next {
		if i > 0 {
			b.WriteString("; ")
		}
		if i < len(d.Ends) && d.Ends[i] {
			b.WriteString("!")
		}
		for low := 0; low < 256; {
			high := low
			for high < 255 && row[high+1] == row[low] {
				high++
			}
			if row[low] != -1 {
				fmt.Fprintf(&b, " %s>%d", bytesTold(low, high), row[low])
			}
			low = high + 1
		}
	}
	if len(d.Ends) != len(d.Next) {
		fmt.Fprintf(&b, " (%d Ends)", len(d.Ends))
	}
	return b.String()
}

func bytesTold(low, high int) string {
	name := func(b int) string {
		if 'a' <= b && b <= 'z' {
			return string(rune(b))
		}
		return fmt.Sprintf("%02x", b)
	}
	if low == high {
		return name(low)
	}
	return name(low) + "-" + name(high)
}

// model is the automaton of places in plain words: a state is the numbers of its places; however many they are, up to a bound.
func model(g glush.Glush, bound int) api.Dfa {
	var d api.Dfa
	numbers := map[string]int{"ahead of all": 0}
	states := []string{""} // of each a byte for each of its places
	for at := 0; at < len(states) && at < bound; at++ {
		next, ends := uint64(0), at == 0 && g.Null
		if at == 0 {
			next = g.First
		}
		for i := range len(states[at]) {
			p := states[at][i]
			next |= g.Follow[p]
			ends = ends || g.Last>>p&1 == 1
		}
		var row [256]int
		for b := range row {
			to := having(g, next, byte(b))
			if to == "" {
				row[b] = -1
				continue
			}
			if _, met := numbers[to]; !met {
				numbers[to] = len(states)
				states = append(states, to)
			}
			row[b] = numbers[to]
		}
		d.Next, d.Ends = append(d.Next, row), append(d.Ends, ends)
	}
	return d
}

// having is those of some places that have a byte.
func having(g glush.Glush, places uint64, b byte) string {
	var to []byte
	for p, s := range g.Sets {
		if places>>p&1 == 1 && class.Has(s, b) {
			to = append(to, byte(p))
		}
	}
	return string(to)
}

// wantsModel holds what Build tells of places that are all there against the model.
func wantsModel(t *testing.T, what any, g glush.Glush) {
	t.Helper()
	d, e := dfa.Build(g)
	m := model(g, api.MaxStates+1)
	if len(m.Next) > api.MaxStates {
		if e != api.ErrLarge || len(d.Next) != 0 || len(d.Ends) != 0 {
			t.Errorf("Build of %v: error %d, %d states", what, e, len(d.Next))
		}
		return
	}
	if e != api.OK || tell(d) != tell(m) {
		t.Errorf("Build of %v: error %d, %s, want %s", what, e, tell(d), tell(m))
	}
	if !dfa.Is(d) {
		t.Errorf("Build of %v may not be", what)
	}
}

// wantsArg holds that Build refuses.
func wantsArg(t *testing.T, what any, g glush.Glush) {
	t.Helper()
	if d, e := dfa.Build(g); e != api.ErrArg || len(d.Next) != 0 || len(d.Ends) != 0 {
		t.Errorf("Build of %v: error %d, %d states", what, e, len(d.Next))
	}
}

// anyPlaces is places by chance: all that are named are there.
func anyPlaces(r *rand.Rand) glush.Glush {
	n := r.Intn(6)
	if r.Intn(10) == 0 {
		n = 60 + r.Intn(5)
	}
	some := func() uint64 {
		var word uint64
		for p := range n {
			if r.Intn(n) < 2 {
				word |= 1 << p
			}
		}
		return word
	}
	g := glush.Glush{Null: r.Intn(2) == 0, First: some(), Last: some()}
	sets := []api.Set{class.Of('a'), class.Of('b'), class.Of('a', 'b'), class.Of(), class.Of(0, 255), class.Range('b', 'd'), class.Range(0, 255)}
	for range n {
		g.Sets = append(g.Sets, sets[r.Intn(len(sets))])
		g.Follow = append(g.Follow, some())
	}
	return g
}

// eachText calls for each text of some bytes that has at most so many.
func eachText(bytes string, most int, call func(s string)) {
	call("")
	if most == 0 {
		return
	}
	for i := range len(bytes) {
		eachText(bytes, most-1, func(s string) { call(bytes[i:i+1] + s) })
	}
}

// anyRe is an expression by chance, at most so deep, of few bytes.
func anyRe(r *rand.Rand, deep int) api.Re {
	kind := r.Intn(8)
	if deep <= 1 {
		kind = r.Intn(3)
	}
	switch kind {
	case 0:
		return api.Re{}
	case 1, 2:
		return api.Re{Kind: api.ReClass, Set: []api.Set{class.Of('a'), class.Of('b'), class.Of('a', 'b'), class.Not(class.Of('a'))}[r.Intn(4)]}
	case 3, 4, 5:
		kids := make([]api.Re, 2+r.Intn(2))
		for i := range kids {
			kids[i] = anyRe(r, deep-1)
		}
		return api.Re{Kind: []int{api.ReAlt, api.ReSeq, api.ReSeq}[kind-3], Kids: kids}
	}
	low := r.Intn(4)
	high := []int{-1, max(low, 1), low + 1, low + 2}[r.Intn(4)]
	return api.Re{Kind: api.ReRepeat, Kids: []api.Re{anyRe(r, deep-1)}, Low: low, High: high}
}

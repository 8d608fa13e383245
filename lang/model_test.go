package lang_test

import (
	"math/rand"
	"slices"
	"testing"

	"winnower/api"
	"winnower/class"
	"winnower/lang"
	"winnower/regex"
)

// Expressions, put together by hand.

func empty() api.Re { return api.Re{} }

func one(b byte) api.Re { return api.Re{Kind: api.ReClass, Set: class.Of(b)} }

func anyOf(bytes string) api.Re { return api.Re{Kind: api.ReClass, Set: class.Of([]byte(bytes)...)} }

func all() api.Re { return api.Re{Kind: api.ReClass, Set: class.Range(0, 255)} }

func seq(l ...api.Re) api.Re { return api.Re{Kind: api.ReSeq, Kids: l} }

func alt(l ...api.Re) api.Re { return api.Re{Kind: api.ReAlt, Kids: l} }

func rep(r api.Re, low, high int) api.Re {
	return api.Re{Kind: api.ReRepeat, Kids: []api.Re{r}, Low: low, High: high}
}

func star(r api.Re) api.Re { return rep(r, 0, -1) }

// parse is the expression of a text that is one.
func parse(t *testing.T, s string) api.Re {
	t.Helper()
	r, at, e := regex.Parse(s)
	if e != api.OK {
		t.Fatalf("Parse(%q): error %d at %d", s, e, at)
	}
	return r
}

// model tells by the words of the language alone, from each place of a text where texts end.
type model struct {
	text string
}

// places is of each place whether it is one.
type places []bool

// from is all ends of texts of r that begin at any of some places.
func (m model) from(r api.Re, begins places) places {
	ends := make(places, len(m.text)+1)
	switch r.Kind {
	case api.ReEmpty:
		copy(ends, begins)
	case api.ReClass:
		for i, in := range begins {
			if in && i < len(m.text) && r.Set[m.text[i]/64]>>(m.text[i]%64)&1 == 1 {
				ends[i+1] = true
			}
		}
	case api.ReSeq:
		copy(ends, begins)
		for _, kid := range r.Kids {
			ends = m.from(kid, ends)
		}
	case api.ReAlt:
		for _, kid := range r.Kids {
			ends.add(m.from(kid, begins))
		}
	case api.ReRepeat:
		m.repeat(r, begins, ends)
	}
	return ends
}

// repeat adds the ends of each number of Kids that there may be. Of more copies than the text has bytes all but those bytes are empty: behind Low of them, one more than these tells nothing new.
func (m model) repeat(r api.Re, begins, ends places) {
	most := r.High
	if most == -1 {
		most = r.Low + len(m.text) + 1
	}
	now := slices.Clone(begins)
	for n := 0; n <= most; n++ {
		if n >= r.Low {
			ends.add(now)
		}
		now = m.from(r.Kids[0], now)
	}
}

func (p places) add(more places) {
	for i, in := range more {
		p[i] = p[i] || in
	}
}

// ends is what Ends tells of an expression that may be.
func (m model) ends(r api.Re, at int) []int {
	if at < 0 || at > len(m.text) {
		return nil
	}
	begins := make(places, len(m.text)+1)
	begins[at] = true
	var list []int
	for i, in := range m.from(r, begins) {
		if in {
			list = append(list, i)
		}
	}
	return list
}

// wantsEnds holds what Ends and Longest tell.
func wantsEnds(t *testing.T, r api.Re, s string, at int, want ...int) {
	t.Helper()
	if got := lang.Ends(r, s, at); !slices.Equal(got, want) {
		t.Errorf("Ends(%s, %q, %d) = %v, want %v", regex.Print(r), s, at, got, want)
	}
	longest := -1
	for _, end := range want {
		longest = end
	}
	if got := lang.Longest(r, s, at); got != longest {
		t.Errorf("Longest(%s, %q, %d) = %d, want %d", regex.Print(r), s, at, got, longest)
	}
}

// wantsModel holds all that is told of an expression and a text against the model.
func wantsModel(t *testing.T, r api.Re, s string) {
	t.Helper()
	m := model{s}
	for at := -1; at <= len(s)+1; at++ {
		wantsEnds(t, r, s, at, m.ends(r, at)...)
	}
	match := slices.Contains(m.ends(r, 0), len(s))
	if got := lang.Match(r, s); got != match {
		t.Errorf("Match(%s, %q) = %v", regex.Print(r), s, got)
	}
	null := len(model{""}.ends(r, 0)) > 0
	if got := lang.Null(r); got != null {
		t.Errorf("Null(%s) = %v", regex.Print(r), got)
	}
}

// eachText calls for each text of some bytes that has at most so many.
func eachText(bytes string, most int, call func(s string)) {
	texts := []string{""}
	for n := 0; ; n++ {
		for _, s := range texts {
			call(s)
		}
		if n == most {
			return
		}
		var longer []string
		for _, s := range texts {
			for i := range len(bytes) {
				longer = append(longer, s+bytes[i:i+1])
			}
		}
		texts = longer
	}
}

// anyRe is an expression by chance, at most so deep, of few bytes.
func anyRe(r *rand.Rand, deep int) api.Re {
	kind := r.Intn(8)
	if deep <= 1 {
		kind = r.Intn(3)
	}
	switch kind {
	case 0:
		return empty()
	case 1, 2:
		return []api.Re{one('a'), one('b'), anyOf("ab"), anyOf("bc"), all()}[r.Intn(5)]
	case 3, 4, 5:
		kids := make([]api.Re, 2+r.Intn(2))
		for i := range kids {
			kids[i] = anyRe(r, deep-1)
		}
		if kind == 3 {
			return alt(kids...)
		}
		return seq(kids...)
	}
	low := r.Intn(4)
	return rep(anyRe(r, deep-1), low, []int{-1, max(low, 1), low + 1, low + 2}[r.Intn(4)])
}

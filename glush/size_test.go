package glush_test

import (
	"math"
	"strings"
	"testing"

	"winnower/api"
	"winnower/class"
	"winnower/glush"
	"winnower/regex"
)

// P8.1: of each kind, and of each within others.
func TestSize(t *testing.T) {
	for s, want := range map[string]int{
		"": 0, "()": 0, "a": 1, ".": 1, "[a-z]": 1, "[^a]": 1,
		"ab": 2, "abc": 3, "a()": 1, "()()": 0, "(ab)c": 3, "a(b|c)d": 4,
		"a|b": 2, "a|": 1, "|": 0, "a|bc|def": 6, "a|a": 2,
		"a*": 1, "a+": 1, "a?": 1, "a{0,}": 1, "a{1,}": 1, "a{0,1}": 1, "a{1}": 1,
		"a{2}": 2, "a{5}": 5, "a{32}": 32, "a{2,}": 2, "a{32,}": 32, "a{0,2}": 2, "a{2,5}": 5, "a{1,32}": 32, "a{31,32}": 32,
		"()*": 0, "()+": 0, "(){32}": 0, "(){5,}": 0, "(|){2,3}": 0,
		"(ab)*": 2, "(ab){3}": 6, "(ab){2,4}": 8, "(ab){3,}": 6, "(a|b|){3}": 6, "(a|bc)?": 3,
		"(a*)*": 1, "(a{2}){3}": 6, "(a{2,3}){4,}": 12, "(a{2,}){2,3}": 6, "((a{2}){3}){4}": 24, "(((a{2})*){2,}){0,3}": 12, "(a?b?){2}c": 5,
		"a(b|)[0-9]{2,}": 4, "a(b|c)*": 3,
	} {
		r := parse(t, s)
		if got := glush.Size(r); got != want {
			t.Errorf("Size(%s) = %d, want %d", s, got, want)
		}
		if g := places(t, r); len(g.Sets) != want || len(g.Follow) != want {
			t.Errorf("Of(%s): %d Sets, %d Follow, want %d", s, len(g.Sets), len(g.Follow), want)
		}
	}
}

// P8.1: each Repeat that there may be.
func TestSizeOfEachRepeat(t *testing.T) {
	for low := 0; low <= api.MaxRepeat; low++ {
		for high := -1; high <= api.MaxRepeat; high++ {
			r := rep(seq(one('a'), one('b'), empty()), low, high)
			if !regex.Is(r) {
				continue
			}
			want := 2 * max(low, high, 1)
			if got := glush.Size(r); got != want {
				t.Errorf("Size(%s) = %d, want %d", regex.Print(r), got, want)
			}
		}
	}
}

// P8.1: at most 1000 is told.
func TestSizeOfMany(t *testing.T) {
	a := one('a')
	for want, r := range map[int]api.Re{
		64:  rep(rep(a, 8, 8), 8, 8),
		65:  seq(rep(a, 32, 32), rep(a, 32, 32), a),
		100: row(100, a),
		127: row(127, a),
		625: rep(rep(rep(rep(a, 5, 5), 5, 5), 5, 5), 5, 5),
		900: rep(rep(a, 30, 30), 30, -1),
		992: rep(rep(a, 0, 32), 31, 31),
		999: rep(row(111, a), 1, 9),
	} {
		if got := glush.Size(r); got != want || !regex.Is(r) {
			t.Errorf("Size(%s) = %d, want %d", regex.Print(r), got, want)
		}
	}
	for size, r := range map[int]api.Re{
		1000: rep(row(125, a), 8, 8),
		1001: rep(row(91, a), 11, -1),
		1008: rep(row(126, a), 0, 8),
		1010: rep(row(101, a), 10, 10),
	} {
		if got := glush.Size(r); got != 1000 || !regex.Is(r) || plainSize(r) != size {
			t.Errorf("Size(%s) = %d, want 1000", regex.Print(r), got)
		}
		if g, e := glush.Of(r); e != api.ErrLarge || tell(g) != ";;;" || len(g.Sets) != 0 {
			t.Errorf("Of(%s): error %d, %v", regex.Print(r), e, g)
		}
	}
}

// P8.1: just MaxKids places, and one more.
func TestMostPlaces(t *testing.T) {
	a, b := one('a'), one('b')
	for _, at := range []struct{ most, more api.Re }{
		{row(64, a), row(65, a)},
		{alt(row(32, a), row(32, b)), alt(row(32, a), row(33, b))},
		{seq(rep(a, 32, 32), rep(b, 32, 32)), seq(rep(a, 32, 32), rep(b, 32, 32), a)},
		{rep(row(32, a), 0, 2), rep(row(13, a), 0, 5)},
		{rep(row(2, a), 32, -1), seq(rep(row(2, a), 32, -1), b)},
		{rep(rep(a, 0, 8), 3, 8), alt(b, rep(rep(a, 0, 8), 3, 8))},
		{star(row(64, a)), star(row(65, a))},
	} {
		g := places(t, at.most)
		if len(g.Sets) != 64 || len(g.Follow) != 64 || glush.Size(at.most) != 64 {
			t.Errorf("Of(%s): %d Sets, %d Follow", regex.Print(at.most), len(g.Sets), len(g.Follow))
		}
		wantsModel(t, at.most)
		g, e := glush.Of(at.more)
		if e != api.ErrLarge || tell(g) != ";;;" || len(g.Sets) != 0 || glush.Size(at.more) != 65 {
			t.Errorf("Of(%s): error %d, %v", regex.Print(at.more), e, g)
		}
	}
	// The last place is the topmost bit.
	g := places(t, row(64, a))
	if g.First != 1 || g.Last != 1<<63 || g.Follow[62] != 1<<63 || g.Follow[63] != 0 {
		t.Error(tell(g))
	}
	if g := places(t, star(row(64, a))); g.Follow[63] != 1 {
		t.Error(tell(g))
	}
}

// mayNot is expressions that may not be.
func mayNot() map[string]api.Re {
	a := one('a')
	deep, heavy := a, rep(rep(a, 32, 32), 32, 32)
	for range 16 {
		deep = alt(deep, a)
	}
	huge := a
	for range 200 {
		huge = seq(huge, huge)
	}
	ring := seq(a, a)
	ring.Kids[1] = ring
	return map[string]api.Re{
		"Empty with a Set":     {Set: class.Of('a')},
		"Empty with Kids":      {Kids: []api.Re{a, a}},
		"Empty with Low":       {Low: 1},
		"Class of none":        {Kind: api.ReClass},
		"Class with Kids":      {Kind: api.ReClass, Set: class.Of('a'), Kids: []api.Re{a}},
		"Seq of none":          seq(),
		"Seq of one":           seq(a),
		"Alt of one":           alt(a),
		"Alt with High":        {Kind: api.ReAlt, Kids: []api.Re{a, a}, High: 1},
		"Repeat of none":       {Kind: api.ReRepeat, High: -1},
		"Repeat of two":        {Kind: api.ReRepeat, Kids: []api.Re{a, a}, High: -1},
		"{0}":                  rep(a, 0, 0),
		"{3,2}":                rep(a, 3, 2),
		"{0,33}":               rep(a, 0, 33),
		"{33,}":                rep(a, 33, -1),
		"Low below 0":          rep(a, -1, 1),
		"High below -1":        rep(a, 0, -2),
		"the greatest number":  rep(a, 0, math.MaxInt),
		"the greatest numbers": rep(rep(a, math.MaxInt, math.MaxInt), math.MaxInt, math.MaxInt),
		"the least number":     rep(a, math.MinInt, -1),
		"kind 5":               {Kind: 5},
		"kind -1":              {Kind: -1, Kids: []api.Re{a, a}},
		"a Kid that may not":   alt(a, seq(a)),
		"far below":            seq(star(alt(a, rep(seq(a, api.Re{Kind: 7}), 0, 1))), a),
		"17 deep":              deep,
		"129 nodes":            row(128, a),
		"5 Repeats within":     star(star(star(star(star(a))))),
		"too heavy":            heavy,
		"huge":                 huge,
		"within itself":        ring,
	}
}

// P8.1: ErrArg, if r may not be, ahead of ErrLarge; W1: Size of such a one ends.
func TestMayNotBe(t *testing.T) {
	for what, r := range mayNot() {
		glush.Size(r)
		if g, e := glush.Of(r); e != api.ErrArg || tell(g) != ";;;" || len(g.Sets) != 0 {
			t.Errorf("%s: error %d, %v", what, e, g)
		}
	}
}

// P8.1: too long a text is ErrArg too.
func TestTooLongToPrint(t *testing.T) {
	var odd api.Set
	for b := 1; b < 256; b += 2 {
		odd = class.Join(odd, class.Of(byte(b)))
	}
	if g, e := glush.Of(seq(of(odd), of(odd), of(odd))); e != api.ErrArg || len(g.Sets) != 0 {
		t.Errorf("error %d, %v", e, g)
	}
	if got := glush.Size(seq(of(odd), of(odd))); got != 2 {
		t.Error(got)
	}
	if got := glush.Size(parse(t, strings.Repeat("(", 500)+"ab"+strings.Repeat(")", 500))); got != 2 {
		t.Error(got)
	}
}

package mini_test

import (
	"math"
	"math/rand"
	"slices"
	"sync"
	"testing"

	"winnower/api"
	"winnower/dfa"
	"winnower/mini"
)

// P10.1: the example.
func TestExample(t *testing.T) {
	m := minimal(t, build(t, "(a|b)*abb"))
	if got := tell(m); len(m.Next) != 4 || got != " a>1 b>0;  a>1 b>2;  a>1 b>3; ! a>1 b>0" {
		t.Error(got)
	}
}

// ring is n states, each leading by a to the next one, the last one to the first.
func ring(n int, ends ...int) api.Dfa {
	var arrows []arrow
	for state := range n {
		arrows = append(arrows, arrow{state, 'a', (state + 1) % n})
	}
	return hand(n, arrows, ends...)
}

// row is n states, each leading by a to the next one, the last one nowhere.
func row(n int, ends ...int) api.Dfa {
	d := ring(n, ends...)
	d.Next[n-1]['a'] = -1
	return d
}

// P10.1: an end that is reached at once, behind a byte, behind many, never.
func TestAlive(t *testing.T) {
	for _, at := range []struct {
		what string
		d    api.Dfa
		want []bool
	}{
		{"one that ends", hand(1, nil, 0), []bool{true}},
		{"one that does not", hand(1, nil), []bool{false}},
		{"one that leads to itself", hand(1, []arrow{{0, 'a', 0}}), []bool{false}},
		{"at once", hand(2, nil, 1), []bool{false, true}},
		{"behind a byte", hand(2, []arrow{{0, 0, 1}}, 1), []bool{true, true}},
		{"behind the last byte", hand(2, []arrow{{0, 255, 1}}, 1), []bool{true, true}},
		{"back", hand(2, []arrow{{1, 'a', 0}}, 0), []bool{true, true}},
		{"behind an end", hand(3, []arrow{{0, 'a', 1}, {1, 'a', 2}}, 1), []bool{true, true, false}},
		{"what 0 does not reach", hand(4, []arrow{{2, 'a', 3}, {1, 'a', 2}}, 3), []bool{false, true, true, true}},
		{"two that lead to each other", hand(3, []arrow{{0, 'a', 1}, {1, 'a', 0}}, 2), []bool{false, false, true}},
		{"two that lead to each other and to an end", hand(3, []arrow{{0, 'a', 1}, {1, 'a', 0}, {1, 'b', 2}}, 2), []bool{true, true, true}},
		{"128 in a ring", ring(128, 5), slices.Repeat([]bool{true}, 128)},
		{"128 in a row", row(128, 127), slices.Repeat([]bool{true}, 128)},
		{"128 in a row, the first ends", row(128, 0), append([]bool{true}, make([]bool, 127)...)},
		{"128 of which none ends", ring(128), make([]bool, 128)},
	} {
		if got := mini.Alive(at.d); !slices.Equal(got, at.want) {
			t.Errorf("%s: %v", at.what, got)
		}
	}
}

// mayNot is automata that may not be.
func mayNot() map[string]api.Dfa {
	good := hand(2, []arrow{{0, 'a', 1}, {1, 'a', 0}}, 0, 1)
	l := map[string]api.Dfa{
		"none":           {},
		"no Next":        {Ends: []bool{true}},
		"no Ends":        {Next: good.Next},
		"Ends too few":   {Next: good.Next, Ends: []bool{true}},
		"Ends too many":  {Next: good.Next, Ends: []bool{true, true, true}},
		"129 states":     ring(129, 0),
		"very many":      ring(1000, 0),
		"129, 128 Ends":  {Next: ring(129).Next, Ends: ring(128, 0).Ends},
		"128, 129 Ends":  {Next: ring(128).Next, Ends: ring(129, 0).Ends},
		"empty, not nil": {Next: [][256]int{}, Ends: []bool{}},
	}
	for what, to := range map[string]int{"-2": -2, "2": 2, "the greatest": math.MaxInt, "the least": math.MinInt} {
		d := clone(good)
		d.Next[1][255] = to
		l["leads to "+what] = d
	}
	return l
}

// P10.1, P10.2: Alive tells nothing, Minimal is ErrArg, Equal false.
func TestMayNotBe(t *testing.T) {
	good := hand(2, []arrow{{0, 'a', 1}, {1, 'a', 0}}, 0, 1)
	for what, d := range mayNot() {
		if got := mini.Alive(d); len(got) != 0 {
			t.Errorf("%s: Alive %v", what, got)
		}
		if m, e := mini.Minimal(d); e != api.ErrArg || len(m.Next) != 0 || len(m.Ends) != 0 {
			t.Errorf("%s: Minimal error %d, %s", what, e, tell(m))
		}
		if mini.Equal(d, d) || mini.Equal(d, good) || mini.Equal(good, d) || mini.Equal(d, api.Dfa{}) {
			t.Errorf("%s: Equal", what)
		}
	}
	if !mini.Equal(good, good) {
		t.Error("not Equal")
	}
}

// P10.1: what Minimal is, state by state.
func TestMinimal(t *testing.T) {
	for _, at := range []struct {
		what string
		d    api.Dfa
		want string
	}{
		{"one that ends", hand(1, nil, 0), "!"},
		{"one that ends and goes on", hand(1, []arrow{{0, 'a', 0}}, 0), "! a>0"},
		// If 0 is not alive: one state that leads nowhere.
		{"one that does not end", hand(1, nil), ""},
		{"one that goes on for ever", hand(1, []arrow{{0, 'a', 0}}), ""},
		{"an end that is not reached", hand(3, []arrow{{0, 'a', 1}, {1, 'b', 0}, {2, 'a', 0}}, 2), ""},
		{"128 that never end", ring(128), ""},
		// What is not reached is left out, also if it ends.
		{"one that is not reached", hand(2, nil, 0, 1), "!"},
		{"two that are not reached", hand(4, []arrow{{0, 'a', 2}, {1, 'b', 2}, {1, 'a', 3}, {3, 'c', 0}}, 2, 3), " a>1; !"},
		// What leads to one that is not alive leads nowhere.
		{"to one that is not alive", hand(3, []arrow{{0, 'a', 1}, {0, 'b', 2}}, 1), " a>1; !"},
		{"to one that is not alive, and goes on", hand(3, []arrow{{0, 'a', 1}, {0, 'b', 2}, {2, 'a', 2}, {1, 'c', 2}}, 1), " a>1; !"},
		{"on the way to one that is not alive", hand(4, []arrow{{0, 'a', 2}, {2, 'a', 3}, {3, 'a', 2}, {0, 'b', 1}}, 1), " b>1; !"},
		{"nowhere, or to what is not alive, is one", hand(5, []arrow{{0, 'a', 1}, {0, 'b', 2}, {1, 'c', 3}, {2, 'c', 3}, {2, 'd', 4}}, 3), " a-b>1;  c>2; !"},
		// One state, if the same texts lead on from them.
		{"two that are one", hand(3, []arrow{{0, 'a', 1}, {0, 'b', 2}}, 1, 2), " a-b>1; !"},
		{"two that part in an end", hand(3, []arrow{{0, 'a', 1}, {0, 'b', 2}, {1, 'c', 2}}, 2), " a>1 b>2;  c>2; !"},
		{"0 and another are one", hand(2, []arrow{{0, 'a', 1}, {1, 'a', 0}}, 0, 1), "! a>0"},
		{"all are one", ring(4, 0, 1, 2, 3), "! a>0"},
		{"a ring that goes round twice", ring(6, 1, 4), " a>1; ! a>2;  a>0"},
		{"a ring that does not", ring(6, 1, 3), " a>1; ! a>2;  a>3; ! a>4;  a>5;  a>0"},
		// As they are met: from 0 on, by bytes, rising.
		{"numbered otherwise", hand(4, []arrow{{0, 'a', 3}, {0, 'b', 2}, {3, 'z', 1}, {2, 'y', 1}}, 1), " a>1 b>2;  z>3;  y>3; !"},
		{"numbered by the last byte", hand(3, []arrow{{0, 255, 1}, {0, 0, 2}, {1, 'a', 2}}, 2), " 00>1 ff>2; !;  a>1"},
		{"wide ahead of deep", hand(5, []arrow{{0, 'a', 4}, {0, 'b', 1}, {4, 'a', 3}, {3, 'x', 2}, {1, 'a', 2}}, 2), " a>1 b>2;  a>3;  a>4;  x>4; !"},
	} {
		if m, e := mini.Minimal(at.d); e != api.OK || tell(m) != at.want || len(m.Next) != len(m.Ends) || len(m.Next) == 0 {
			t.Errorf("%s: error %d, %s, want %s", at.what, e, tell(m), at.want)
		}
		wantsModel(t, at.d)
	}
}

// P10.1: of expressions.
func TestMinimalOfExpressions(t *testing.T) {
	for s, want := range map[string]string{
		"":                   "!",
		"a":                  " a>1; !",
		"a*":                 "! a>0",
		"a+":                 " a>1; ! a>1",
		"(a|b)*":             "! a-b>0",
		".*":                 "! 00-ff>0",
		"a|b":                " a-b>1; !",
		"a(b|c)*":            " a>1; ! b-c>1",
		"(a|b)(a|b)":         " a-b>1;  a-b>2; !",
		"ac|bc":              " a-b>1;  c>2; !",
		"ac|bd":              " a>1 b>2;  c>3;  d>3; !",
		"a{2,3}":             " a>1;  a>2; ! a>3; !",
		"(a|ab)(c|bc)":       " a>1;  b>2 c>3;  b>4 c>3; !;  c>3",
		"[^a]*a":             " 00-60>0 a>1 b-ff>0; !",
		"(a{3})*":            "! a>1;  a>2;  a>0",
		"b*a|a":              " a>1 b>0; !",
		"(a|b)*a(a|b)":       " a>1 b>0;  a>2 b>3; ! a>2 b>3; ! a>1 b>0",
		`\-?[0-9]+`:          " 2d>1 30-39>2;  30-39>2; ! 30-39>2",
		`"([^"\\]|\\.)*"`:    " 22>1;  00-21>1 22>2 23-5b>1 5c>3 5d-ff>1; !;  00-ff>1",
		"(ab|ba)*(aa|bb|)":   "! a>1 b>2;  a>3 b>0;  a>0 b>3; !",
		"a?b?c?":             "! a>1 b>2 c>3; ! b>2 c>3; ! c>3; !",
		"(abc|xbc|xyc)":      " a>1 x>2;  b>3;  b>3 y>3;  c>4; !",
		"(a|b|c|d){2}(e|f)?": " a-d>1;  a-d>2; ! e-f>3; !",
	} {
		d := build(t, s)
		if got := tell(minimal(t, d)); got != want {
			t.Errorf("Minimal(%s) = %s, want %s", s, got, want)
		}
		wantsModel(t, d)
	}
}

// P10.1: states that only long texts tell apart, or none does.
func TestFarBehind(t *testing.T) {
	// From 0 two rows of 63, by a and by b; the last of each leads on to an end, by c, or the second one's by d.
	twoRows := func(last byte) api.Dfa {
		arrows := []arrow{{0, 'a', 1}, {0, 'b', 64}}
		for n := 1; n < 63; n++ {
			arrows = append(arrows, arrow{n, 'x', n + 1}, arrow{n + 63, 'x', n + 64})
		}
		return hand(128, append(arrows, arrow{63, 'c', 127}, arrow{126, last, 127}), 127)
	}
	if m := minimal(t, twoRows('c')); len(m.Next) != 65 || m.Next[0]['a'] != 1 || m.Next[0]['b'] != 1 {
		t.Errorf("%d states: %s", len(m.Next), tell(m))
	}
	if m := minimal(t, twoRows('d')); len(m.Next) != 128 || m.Next[0]['a'] != 1 || m.Next[0]['b'] != 2 || m.Next[1]['x'] != 3 {
		t.Errorf("%d states: %s", len(m.Next), tell(m))
	}
	wantsModel(t, twoRows('c'))
	wantsModel(t, twoRows('d'))
	d := twoRows('c')
	d.Ends[126] = true
	if m := minimal(t, d); len(m.Next) != 128 {
		t.Errorf("%d states: %s", len(m.Next), tell(m))
	}
	wantsModel(t, d)
}

// P10.1: of MaxStates that are the least already, and numbered as they are met: it is itself; numbered otherwise: it is that one.
func TestLeastAlready(t *testing.T) {
	r := rand.New(rand.NewSource(101))
	for _, d := range []api.Dfa{row(128, 127), row(127, 126), ring(128, 0), ring(127, 126), ring(128, 3, 64), row(1, 0), row(2, 1), ring(2, 0)} {
		if m := minimal(t, d); !dfa.Same(m, d) {
			t.Errorf("Minimal of %d states: %s", len(d.Next), tell(m))
		}
		wantsModel(t, d)
		other := renumbered(d, anyOrder(r, len(d.Next)))
		if m := minimal(t, other); !dfa.Same(m, d) {
			t.Errorf("Minimal of %d states, numbered otherwise: %s", len(d.Next), tell(m))
		}
		wantsModel(t, other)
	}
}

// P10.1: automata by chance; also with each state twice.
func TestByChance(t *testing.T) {
	r := rand.New(rand.NewSource(102))
	for range 1500 {
		d := anyDfa(r)
		wantsModel(t, d)
		twice := doubled(r, d)
		wantsModel(t, twice)
		if !dfa.Same(minimal(t, d), minimal(t, twice)) {
			t.Errorf("Minimal(%s) and of it doubled part", tell(d))
		}
	}
}

// P10.1: the same texts, and none fewer states could have them: any two states are told apart.
func TestSameTexts(t *testing.T) {
	r := rand.New(rand.NewSource(103))
	for range 300 {
		d := anyDfa(r)
		m := minimal(t, d)
		eachText("ab\x00\xff", 4, func(s string) {
			if got, want := dfa.Ends(m, s), dfa.Ends(d, s); got != want {
				t.Errorf("Minimal(%s): %q ends %v", tell(d), s, got)
			}
		})
		marks := apart(m)
		for i := range m.Next {
			for k := range i {
				if !marks[i][k] {
					t.Errorf("Minimal(%s): %d and %d are one", tell(d), k, i)
				}
			}
		}
	}
}

// P10.2
func TestEqual(t *testing.T) {
	for _, at := range []struct {
		a, b string
		want bool
	}{
		{"", "", true}, {"", "()*", true}, {"", "a", false}, {"", "a*", false},
		{"a", "a", true}, {"a", "b", false}, {"a|b", "b|a", true}, {"a|b", "[ab]", true}, {"a|b", "[abc]", false},
		{"a*", "(a*)*", true}, {"a*", "a*a*", true}, {"a*", "(a|aa)*", true}, {"a*", "a+", false}, {"a*", "a+|", true}, {"a*", "(aa)*", false}, {"(aa)*(a|)", "a*", true},
		{"(a|b)*", "(a*b*)*", true}, {"(a|b)*abb", "(a|b)*(a|b)*abb", true}, {"(a|b)*abb", "(a|b)*ab", false},
		{"a{2,3}", "aa|aaa", true}, {"a{2,3}", "aaa?", true}, {"a{2,3}", "a{2,4}", false}, {"a{3,}", "aaaa*", true},
		{"(ab)*a", "a(ba)*", true}, {"(ab)*a", "a(ba)+", false}, {"ab|ac", "a(b|c)", true}, {"ab|ac", "a(b|d)", false},
		{"a{30}", "a{29}", false}, {"a{0,30}", "a{0,29}", false}, {"(a{0,30}|b)", "(b|a{0,30})", true}, {".", "[\\x00-\\xff]", true}, {".", "[^\\xff]", false}, {".", "[^\\x00]", false},
	} {
		a, b := build(t, at.a), build(t, at.b)
		if mini.Equal(a, b) != at.want || mini.Equal(b, a) != at.want {
			t.Errorf("Equal(%s, %s) is not %v", at.a, at.b, at.want)
		}
		if dfa.Same(minimal(t, a), minimal(t, b)) != at.want {
			t.Errorf("Same of Minimal(%s), of Minimal(%s) is not %v", at.a, at.b, at.want)
		}
	}
	// No text at all, with one state or with many.
	for _, d := range []api.Dfa{hand(1, nil), ring(128), hand(3, []arrow{{0, 'a', 1}}, 2)} {
		if !mini.Equal(d, hand(1, nil)) || mini.Equal(d, hand(1, nil, 0)) || mini.Equal(ring(128, 127), d) {
			t.Errorf("Equal of no text: %s", tell(d))
		}
	}
	// The one text in which they part is 127 bytes long.
	if mini.Equal(row(128, 127), row(127)) || mini.Equal(row(128, 5, 127), row(128, 5)) || !mini.Equal(row(128, 5), row(6, 5)) {
		t.Error("Equal of long texts")
	}
}

// P10.3: Equal is Same of both Minimal, whether they were numbered otherwise, doubled, changed in a place.
func TestEqualIsSameOfMinimal(t *testing.T) {
	r := rand.New(rand.NewSource(104))
	equal := 0
	for range 1500 {
		a := anyDfa(r)
		b := renumbered(a, anyOrder(r, len(a.Next)))
		if !mini.Equal(a, b) || !mini.Equal(b, a) || !mini.Equal(a, doubled(r, b)) {
			t.Errorf("%s is not Equal to one that is numbered otherwise", tell(a))
		}
		state := r.Intn(len(b.Next))
		switch r.Intn(3) {
		case 0:
			b.Ends[state] = !b.Ends[state]
		case 1:
			b.Next[state]['b'] = r.Intn(len(b.Next)+1) - 1
		default:
			b = anyDfa(r)
		}
		want := dfa.Same(minimal(t, a), minimal(t, b))
		if mini.Equal(a, b) != want || mini.Equal(b, a) != want {
			t.Errorf("Equal(%s, %s) is not %v", tell(a), tell(b), want)
		}
		if want {
			equal++
		}
		part := false
		eachText("ab\x00\xff", 3, func(s string) { part = part || dfa.Ends(a, s) != dfa.Ends(b, s) })
		if want && part {
			t.Errorf("%s and %s part in a text", tell(a), tell(b))
		}
	}
	if equal < 100 || equal > 1400 {
		t.Error(equal)
	}
}

// P10.1, W2: the same whatever was asked before, and by however many at once.
func TestSameWhateverWasAsked(t *testing.T) {
	var list []api.Dfa
	var want []string
	for _, s := range []string{"(a|b)*abb", "", "a{2,3}", "(a|b)*a(a|b){3}", "[a-z]+[0-9]"} {
		d := build(t, s)
		list, want = append(list, d), append(want, tell(minimal(t, d)))
	}
	var group sync.WaitGroup
	for from := range 8 {
		group.Go(func() {
			for n := range 3 * len(list) {
				at := (from + n) % len(list)
				m, e := mini.Minimal(list[at])
				if e != api.OK || tell(m) != want[at] || !mini.Equal(m, list[at]) {
					t.Errorf("%d became %s", at, tell(m))
				}
			}
		})
	}
	group.Wait()
}

// P10.3, W6, W7: what is handed in is left as it is and not kept, what is answered is new memory, spare room too.
func TestMemory(t *testing.T) {
	for _, s := range []string{"(a|b)*abb", "a", "", "(a|b)*"} {
		whole := build(t, s)
		n := len(whole.Next)
		next, ends := append(whole.Next, [256]int{7}), append(whole.Ends, true)
		d := api.Dfa{Next: next[:n], Ends: ends[:n]}
		told := tell(api.Dfa{Next: next, Ends: ends})
		first, second, alive, other := minimal(t, d), minimal(t, d), mini.Alive(d), mini.Alive(d)
		mini.Equal(d, d)
		if got := tell(api.Dfa{Next: next, Ends: ends}); got != told {
			t.Errorf("%s: what was handed in became %s", s, got)
		}
		want := tell(first)
		clear(first.Next[:cap(first.Next)])
		clear(first.Ends[:cap(first.Ends)])
		clear(alive[:cap(alive)])
		if tell(second) != want || tell(minimal(t, d)) != want || tell(api.Dfa{Next: next, Ends: ends}) != told {
			t.Errorf("%s: another answer became %s", s, tell(second))
		}
		if !slices.Equal(other, plainAlive(d)) {
			t.Errorf("%s: Alive became %v", s, other)
		}
		clear(next)
		clear(ends)
		if tell(second) != want {
			t.Errorf("%s: an answer became %s", s, tell(second))
		}
	}
}

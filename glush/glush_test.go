package glush_test

import (
	"math/rand"
	"slices"
	"sync"
	"testing"

	"winnower/api"
	"winnower/class"
	"winnower/glush"
	"winnower/lang"
	"winnower/regex"
)

// P8.1: the example.
func TestExample(t *testing.T) {
	r := parse(t, "a(b|c)*")
	g := places(t, r)
	if got, want := tell(g), "; 0; 0 1 2; 1 2, 1 2, 1 2"; got != want {
		t.Errorf("got %s, want %s", got, want)
	}
	wantsSets(t, r, g, class.Of('a'), class.Of('b'), class.Of('c'))
}

// P8.1: of each kind, and of each kind within each kind.
func TestPlaces(t *testing.T) {
	for _, at := range []struct{ re, want string }{
		// Empty, a Set.
		{"", "null;;;"},
		{"()()", "null;;;"},
		{"(|)*", "null;;;"},
		{"(){32}", "null;;;"},
		{"a", "; 0; 0;"},
		{"[ab]", "; 0; 0;"},
		// Seq, also with parts that may be empty in front, in the midst and at the end.
		{"ab", "; 0; 1; 1,"},
		{"abc", "; 0; 2; 1, 2,"},
		{"()a", "; 0; 0;"},
		{"a()b", "; 0; 1; 1,"},
		{"ab()", "; 0; 1; 1,"},
		{"a?bc", "; 0 1; 2; 1, 2,"},
		{"ab?c", "; 0; 2; 1 2, 2,"},
		{"abc?", "; 0; 1 2; 1, 2,"},
		{"a?b?c", "; 0 1 2; 2; 1 2, 2,"},
		{"ab?c?", "; 0; 0 1 2; 1 2, 2,"},
		{"a?bc?", "; 0 1; 1 2; 1, 2,"},
		{"a?b?c?", "null; 0 1 2; 0 1 2; 1 2, 2,"},
		{"ab?c?d?e", "; 0; 4; 1 2 3 4, 2 3 4, 3 4, 4,"},
		{"a*b*c*", "null; 0 1 2; 0 1 2; 0 1 2, 1 2, 2"},
		{"(ab)(cd)", "; 0; 3; 1, 2, 3,"},
		// Alt.
		{"a|b", "; 0 1; 0 1;,"},
		{"a|", "null; 0; 0;"},
		{"|a", "null; 0; 0;"},
		{"|", "null;;;"},
		{"a|bc|def", "; 0 1 3; 0 2 5;, 2,, 4, 5,"},
		{"(a|b)(c|d)", "; 0 1; 2 3; 2 3, 2 3,,"},
		{"(a|)(b|)", "null; 0 1; 0 1; 1,"},
		{"(a|)(b|c)", "; 0 1 2; 1 2; 1 2,,"},
		{"(ab|c)d", "; 0 2; 3; 1, 3, 3,"},
		{"a|b*", "null; 0 1; 0 1;, 1"},
		// Repeats of each kind.
		{"a*", "null; 0; 0; 0"},
		{"a{0,}", "null; 0; 0; 0"},
		{"a+", "; 0; 0; 0"},
		{"a{1,}", "; 0; 0; 0"},
		{"a?", "null; 0; 0;"},
		{"a{0,1}", "null; 0; 0;"},
		{"a{1}", "; 0; 0;"},
		{"a{2}", "; 0; 1; 1,"},
		{"a{3}", "; 0; 2; 1, 2,"},
		{"a{0,2}", "null; 0; 0 1; 1,"},
		{"a{0,3}", "null; 0; 0 1 2; 1, 2,"},
		{"a{1,2}", "; 0; 0 1; 1,"},
		{"a{2,4}", "; 0; 1 2 3; 1, 2, 3,"},
		{"a{2,}", "; 0; 1; 1, 1"},
		{"a{3,}", "; 0; 2; 1, 2, 2"},
		{"xa{0,2}y", "; 0; 3; 1 3, 2 3, 3,"},
		{"xa{2,}y", "; 0; 3; 1, 2, 2 3,"},
		{"xa{2,3}y", "; 0; 4; 1, 2, 3 4, 4,"},
		// Repeats of several places.
		{"(ab)*", "null; 0; 1; 1, 0"},
		{"(ab)+", "; 0; 1; 1, 0"},
		{"(ab)?", "null; 0; 1; 1,"},
		{"(ab){2}", "; 0; 3; 1, 2, 3,"},
		{"(ab){0,2}", "null; 0; 1 3; 1, 2, 3,"},
		{"(ab){2,}", "; 0; 3; 1, 2, 3, 2"},
		{"(a|b)*", "null; 0 1; 0 1; 0 1, 0 1"},
		{"(a|b){2}", "; 0 1; 2 3; 2 3, 2 3,,"},
		{"(a|b){1,2}", "; 0 1; 0 1 2 3; 2 3, 2 3,,"},
		{"(a|b){2,}", "; 0 1; 2 3; 2 3, 2 3, 2 3, 2 3"},
		// A Kid that may be empty, in any number and within the optional copies.
		{"(a|)*", "null; 0; 0; 0"},
		{"(a?)+", "null; 0; 0; 0"},
		{"(a*b*)*", "null; 0 1; 0 1; 0 1, 0 1"},
		{"(a*b?)+", "null; 0 1; 0 1; 0 1, 0 1"},
		{"(a?){2}", "null; 0 1; 0 1; 1,"},
		{"(a?){3}", "null; 0 1 2; 0 1 2; 1 2, 2,"},
		{"(a?){0,2}", "null; 0 1; 0 1; 1,"},
		{"(a?){0,3}", "null; 0 1 2; 0 1 2; 1 2, 2,"},
		{"(a?){1,3}", "null; 0 1 2; 0 1 2; 1 2, 2,"},
		{"(a?){2,}", "null; 0 1; 0 1; 1, 1"},
		{"(a?b?){0,2}", "null; 0 1 2 3; 0 1 2 3; 1 2 3, 2 3, 3,"},
		{"x(a|){1,2}y", "; 0; 3; 1 2 3, 2 3, 3,"},
		{"x(a*){2,3}y", "; 0; 4; 1 2 3 4, 1 2 3 4, 2 3 4, 3 4,"},
		// A Kid without any place.
		{"a(){3}b", "; 0; 1; 1,"},
		{"a()*b()+", "; 0; 1; 1,"},
		{"(a|())*", "null; 0; 0; 0"},
		// Repeats within one another.
		{"(a*)*", "null; 0; 0; 0"},
		{"((a*)*)*", "null; 0; 0; 0"},
		{"(a+)?", "null; 0; 0; 0"},
		{"(a{2})*", "null; 0; 1; 1, 0"},
		{"(a{2}){2}", "; 0; 3; 1, 2, 3,"},
		{"(a{2}){0,2}", "null; 0; 1 3; 1, 2, 3,"},
		{"(a{0,2}){2}", "null; 0 2; 0 1 2 3; 1 2, 2, 3,"},
		{"(a{1,2}){2,}", "; 0; 2 3; 1 2, 2, 2 3, 2"},
		{"((ab)+c?)*", "null; 0; 1 2; 1, 0 2, 0"},
		{"(a*b){2}", "; 0 1; 3; 0 1, 2 3, 2 3,"},
	} {
		r := parse(t, at.re)
		if got := tell(places(t, r)); got != at.want {
			t.Errorf("Of(%s): got %s, want %s", at.re, got, at.want)
		}
		wantsModel(t, r)
	}
}

// P8.1: the Set of each place, from the left; of a Repeat once a copy.
func TestSets(t *testing.T) {
	a, b, c := class.Of('a'), class.Of('b'), class.Of('c')
	for _, at := range []struct {
		re   string
		want []api.Set
	}{
		{"", nil},
		{".", []api.Set{class.Range(0, 255)}},
		{"[^a]", []api.Set{class.Not(a)}},
		{"ab", []api.Set{a, b}},
		{"ba", []api.Set{b, a}},
		{"a|b|c", []api.Set{a, b, c}},
		{"(ab){2}c", []api.Set{a, b, a, b, c}},
		{"(ab){1,3}c", []api.Set{a, b, a, b, a, b, c}},
		{"(a|b){2,}c", []api.Set{a, b, a, b, c}},
		{"(ab)*c", []api.Set{a, b, c}},
		{"(ab)+c", []api.Set{a, b, c}},
		{"c(a{2}b){0,2}", []api.Set{c, a, a, b, a, a, b}},
		{"[a-c]()[0-9]", []api.Set{class.Range('a', 'c'), class.Range('0', '9')}},
	} {
		r := parse(t, at.re)
		wantsSets(t, r, places(t, r), at.want...)
	}
}

// P8.1: each kind within each kind, each Repeat of it.
func TestKindInKind(t *testing.T) {
	a, b, ab := one('a'), one('b'), of(class.Of('a', 'b'))
	kids := []api.Re{empty(), a, ab, seq(a, b), seq(star(a), star(b)), alt(a, b), alt(a, empty()), alt(seq(a, b), b), star(a), rep(b, 1, -1), rep(ab, 0, 1), rep(a, 2, 2), rep(a, 1, 3), rep(b, 2, -1)}
	for _, kid := range kids {
		res := []api.Re{kid, star(kid), rep(kid, 1, -1), rep(kid, 0, 1), rep(kid, 1, 1), rep(kid, 2, 2), rep(kid, 0, 3), rep(kid, 1, 3), rep(kid, 2, 4), rep(kid, 3, -1)}
		for _, other := range kids {
			res = append(res, seq(kid, other), alt(kid, other), seq(a, kid, other), seq(kid, other, b), star(seq(kid, other)), rep(alt(kid, other), 2, 3), rep(seq(kid, other), 0, 2), rep(alt(kid, other), 2, -1))
		}
		for _, r := range res {
			wantsModel(t, r)
		}
	}
}

// P8.1: expressions by chance.
func TestByChance(t *testing.T) {
	r := rand.New(rand.NewSource(81))
	for range 6000 {
		if re := anyRe(r, 1+r.Intn(5)); regex.Is(re) {
			wantsModel(t, re)
		}
	}
}

// wantsTexts holds whether each short text is one of the expression's, by places, against chapter 7.
func wantsTexts(t *testing.T, r api.Re, bytes string, most int) {
	t.Helper()
	g := places(t, r)
	eachText(bytes, most, func(s string) {
		if got, want := match(g, s), lang.Match(r, s); got != want {
			t.Errorf("%s: %q by places %v, by chapter 7 %v", regex.Print(r), s, got, want)
		}
	})
}

// P8.2
func TestTexts(t *testing.T) {
	for _, s := range []string{
		"", "a", "ab", "a|b", "a*", "a+", "a?", "a(b|c)*", "a{2,3}", "a{2,}", "(ab){0,2}", "(a|b)*abb", "(a?b?){2}", "(a*b?)+", "a?b?c?", "(a|ab)(c|bc)", "(a|){2,4}", "(a{2}){0,2}", "((a|b){2}c?)*", "[ab]*c.", "(){3}", "(a|b|c)?(b|)", "(a{1,2}b){2,}",
	} {
		wantsTexts(t, parse(t, s), "abc", 6)
	}
}

// P8.2: expressions by chance.
func TestTextsByChance(t *testing.T) {
	r := rand.New(rand.NewSource(82))
	for range 1200 {
		if re := anyRe(r, 1+r.Intn(4)); regex.Is(re) && glush.Size(re) <= 24 {
			wantsTexts(t, re, "abc", 4)
		}
	}
}

// P8.1, W2: the same whatever was asked before, and by however many at once.
func TestSameWhateverWasAsked(t *testing.T) {
	var res []api.Re
	var want []string
	for _, s := range []string{"a(b|)[0-9]{2,}", "", "(a?){3}", "(ab){0,2}", "a{32}b{32}c", "a{32}b{32}"} {
		r := parse(t, s)
		g, _ := glush.Of(r)
		res, want = append(res, r), append(want, tell(g))
	}
	var group sync.WaitGroup
	for from := range 8 {
		group.Go(func() {
			for n := range 3 * len(res) {
				at := (from + n) % len(res)
				if g, _ := glush.Of(res[at]); tell(g) != want[at] {
					t.Errorf("%d became %s", at, tell(g))
				}
			}
		})
	}
	group.Wait()
}

// W6, W7: what is handed in is left as it is and not kept, what is answered is new memory, spare room too.
func TestMemory(t *testing.T) {
	kids := []api.Re{one('a'), star(seq(one('b'), one('c'))), one('!'), one('?')}
	r := seq(kids[:2]...)
	first, second := places(t, r), places(t, r)
	third := places(t, one('z'))
	want := tell(first)
	if !regex.Same(seq(kids...), seq(one('a'), star(seq(one('b'), one('c'))), one('!'), one('?'))) {
		t.Error("what was handed in became", regex.Print(seq(kids...)))
	}
	clear(first.Sets[:cap(first.Sets)])
	clear(first.Follow[:cap(first.Follow)])
	if got := tell(second); got != want {
		t.Error("another answer became", got)
	}
	wantsSets(t, r, second, class.Of('a'), class.Of('b'), class.Of('c'))
	wantsSets(t, one('z'), third, class.Of('z'))
	kids[1].Kids[0].Kids[0] = one('x')
	kids[0] = one('y')
	wantsSets(t, r, second, class.Of('a'), class.Of('b'), class.Of('c'))
	wantsSets(t, r, places(t, r), class.Of('y'), class.Of('x'), class.Of('c'))
	if !slices.Equal(second.Follow, []uint64{2, 4, 2}) {
		t.Error("an answer became", second.Follow)
	}
}

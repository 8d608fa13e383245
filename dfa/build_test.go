package dfa_test

import (
	"fmt"
	"math/rand"
	"sync"
	"testing"

	"winnower/api"
	"winnower/class"
	"winnower/dfa"
	"winnower/glush"
	"winnower/lang"
	"winnower/regex"
)

// P9.2: the example.
func TestExample(t *testing.T) {
	d := build(t, "a*b")
	if len(d.Next) != 3 || tell(d) != " a>1 b>2;  a>1 b>2; !" {
		t.Error(tell(d))
	}
}

// P9.2: each state as it is met, by bytes, rising.
func TestBuild(t *testing.T) {
	for _, at := range []struct{ re, want string }{
		{"", "!"},
		{"()*", "!"},
		{"a", " a>1; !"},
		{"a*", "! a>1; ! a>1"},
		{"a+", " a>1; ! a>1"},
		{"a?", "! a>1; !"},
		{".", " 00-ff>1; !"},
		{"[^a]", " 00-60>1 b-ff>1; !"},
		{"ab", " a>1;  b>2; !"},
		{"ba", " b>1;  a>2; !"},
		{"a|b", " a>1 b>2; !; !"},
		{"b|a", " a>1 b>2; !; !"},
		{"b|[ab]", " a>1 b>2; !; !"},
		{"bc|ad", " a>1 b>2;  d>3;  c>4; !; !"},
		{"[ab]c", " a-b>1;  c>2; !"},
		{"[ab]|bc", " a>1 b>2; !; ! c>3; !"},
		{"a{3}", " a>1;  a>2;  a>3; !"},
		{"a{0,2}", "! a>1; ! a>2; !"},
		{"a{2,}", " a>1;  a>2; ! a>2"},
		{"(ab)*", "! a>1;  b>2; ! a>1"},
		{"(a|b)*", "! a>1 b>2; ! a>1 b>2; ! a>1 b>2"},
		{"(a|b)*abb", " a>1 b>2;  a>1 b>3;  a>1 b>2;  a>1 b>4; ! a>1 b>2"},
		{"a(b|c)*", " a>1; ! b>2 c>3; ! b>2 c>3; ! b>2 c>3"},
		{"\\xffa|\\x00b", " 00>1 ff>2;  b>3;  a>4; !; !"},
		{"a*a", " a>1; ! a>1"},
		{"(a|a)(a|a)", " a>1;  a>2; !"},
	} {
		if got := tell(build(t, at.re)); got != at.want {
			t.Errorf("%s: got %s, want %s", at.re, got, at.want)
		}
		wantsModel(t, at.re, places(t, at.re))
	}
}

// P9.2: of no place, with and without the empty text.
func TestNoPlace(t *testing.T) {
	for _, g := range []glush.Glush{{}, {Sets: []api.Set{}, Follow: []uint64{}}} {
		for _, null := range []bool{false, true} {
			g.Null = null
			d, e := dfa.Build(g)
			if e != api.OK || len(d.Next) != 1 || len(d.Ends) != 1 || d.Ends[0] != null || d.Next[0] != empties(1).Next[0] {
				t.Errorf("Null %v: error %d, %s", null, e, tell(d))
			}
		}
	}
}

// P9.2: state 0 is ahead of all bytes: no byte leads there, though it has no places; and it ends by Null alone.
func TestStateNought(t *testing.T) {
	a, b := class.Of('a'), class.Of('b')
	for _, at := range []struct {
		g    glush.Glush
		want string
	}{
		// Behind a no place may come: that is nowhere, not state 0.
		{glush.Glush{First: 1, Last: 1, Sets: []api.Set{a}, Follow: []uint64{0}}, " a>1; !"},
		// What may come behind a is what a text may begin with: a state of its own all the same.
		{glush.Glush{First: 1, Last: 1, Sets: []api.Set{a}, Follow: []uint64{1}}, " a>1; ! a>1"},
		{glush.Glush{Null: true, First: 1, Sets: []api.Set{a}, Follow: []uint64{1}}, "! a>1;  a>1"},
		{glush.Glush{Null: true, First: 3, Last: 2, Sets: []api.Set{a, b}, Follow: []uint64{3, 3}}, "! a>1 b>2;  a>1 b>2; ! a>1 b>2"},
		// Last without First, First without Last, nothing at all.
		{glush.Glush{Last: 3, Sets: []api.Set{a, b}, Follow: []uint64{2, 1}}, ""},
		{glush.Glush{First: 1, Sets: []api.Set{a, b}, Follow: []uint64{2, 1}}, " a>1;  b>2;  a>1"},
		{glush.Glush{Null: true, Sets: []api.Set{a}, Follow: []uint64{1}}, "!"},
		// Places that have no byte.
		{glush.Glush{First: 3, Last: 3, Sets: []api.Set{{}, a}, Follow: []uint64{2, 1}}, " a>1; !"},
		{glush.Glush{First: 1, Last: 1, Sets: []api.Set{{}}, Follow: []uint64{1}}, ""},
	} {
		d, e := dfa.Build(at.g)
		if e != api.OK || tell(d) != at.want {
			t.Errorf("%v: error %d, %s, want %s", at.g, e, tell(d), at.want)
		}
		wantsModel(t, at.g, at.g)
	}
}

// P9.2: one place of several that has the byte is enough to end; the others go on.
func TestPlacesTogether(t *testing.T) {
	a, b, ab := class.Of('a'), class.Of('b'), class.Of('a', 'b')
	g := glush.Glush{First: 3, Last: 2, Sets: []api.Set{ab, a, b}, Follow: []uint64{6, 0, 1}}
	d, e := dfa.Build(g)
	if want := " a>1 b>2; ! a>3 b>4;  a>3 b>4; !;  a-b>2"; e != api.OK || tell(d) != want {
		t.Errorf("error %d, %s, want %s", e, tell(d), want)
	}
	wantsModel(t, g, g)
}

// P9.2: ErrArg, if Sets and Follow are not as many, or more than MaxKids.
func TestNotAsMany(t *testing.T) {
	for _, at := range [][2]int{{0, 1}, {1, 0}, {1, 2}, {2, 1}, {63, 64}, {64, 63}, {64, 65}, {65, 64}, {65, 65}, {66, 66}, {128, 128}, {1000, 1000}, {1000, 0}, {0, 1000}} {
		wantsArg(t, at, glush.Glush{Sets: make([]api.Set, at[0]), Follow: make([]uint64, at[1])})
		wantsArg(t, at, glush.Glush{Null: true, Sets: make([]api.Set, at[0]), Follow: make([]uint64, at[1])})
	}
	for _, n := range []int{0, 1, 2, 63, 64} {
		wantsModel(t, n, glush.Glush{Null: true, Sets: make([]api.Set, n), Follow: make([]uint64, n)})
	}
}

// chain is n places, one behind the other, each of a.
func chain(n int) glush.Glush {
	g := glush.Glush{First: 1, Last: 1 << (n - 1), Follow: make([]uint64, n)}
	for p := range n {
		g.Sets = append(g.Sets, class.Of('a'))
		if p > 0 {
			g.Follow[p-1] = 1 << p
		}
	}
	return g
}

// P9.2: ErrArg, if a bit of First, Last, Follow is none of theirs.
func TestNoSuchPlace(t *testing.T) {
	for _, n := range []int{0, 1, 2, 31, 32, 33, 63, 64} {
		for bit := range 64 {
			for _, where := range []string{"First", "Last", "Follow of the first", "Follow of the last"} {
				g := glush.Glush{Null: true}
				if n > 0 {
					g = chain(n)
				}
				switch {
				case where == "First":
					g.First |= 1 << bit
				case where == "Last":
					g.Last |= 1 << bit
				case n == 0:
					continue
				case where == "Follow of the first":
					g.Follow[0] |= 1 << bit
				default:
					g.Follow[n-1] |= 1 << bit
				}
				what := fmt.Sprintf("%d places, bit %d of %s", n, bit, where)
				if bit >= n {
					wantsArg(t, what, g)
				} else if bit%9 == 0 || bit == n-1 {
					wantsModel(t, what, g)
				}
			}
		}
	}
	// A place that no text reaches is looked at too.
	g := chain(3)
	g.First, g.Follow[2] = 0, 8
	wantsArg(t, "a place that is not reached", g)
	// Named twice it is there no more than once.
	g = chain(3)
	g.First, g.Last = g.First|8, g.Last|8
	wantsArg(t, "in First and Last", g)
	g = chain(3)
	g.Follow[0], g.Follow[1] = g.Follow[0]|8, g.Follow[1]|8
	wantsArg(t, "in two of Follow", g)
	g.First |= 8
	wantsArg(t, "in First and two of Follow", g)
}

// P9.2: just MaxStates, and one more.
func TestMostStates(t *testing.T) {
	for s, want := range map[string]int{
		"b*b{2,4}a*(a|b){11}": 127, "(a|b){1,7}c{2,12}[bc]{1,14}a": 127,
		"b{1,9}(a|b){11}": 128, "b*(a|b){1,6}a{0,12}c": 128, "b{8}[ab]{0,11}b{2,8}(a|bc)": 128, "[ab]b{1,5}.{0,14}c": 128,
		"(a|bc)*[ab]{11}(a|bc)*[bc]": 129, "b*[bc]{2,10}b*a{4}(a|b){1,7}": 129, "(a|b){2,12}[bc]*[ab]{11}(a|bc)": 129,
		"b*(a|b){1,4}(a|b)[ab]*[ab]{1,12}": 130, "b[ab]*b(a|b){1,6}": 130,
	} {
		g := places(t, s)
		if got := len(model(g, 200).Next); got != want {
			t.Errorf("%s: %d states in plain words, not %d", s, got, want)
		}
		wantsModel(t, s, g)
		if d, e := dfa.Build(g); want <= 128 && len(d.Next) != want || (e == api.OK) != (want <= 128) {
			t.Errorf("%s: error %d, %d states", s, e, len(d.Next))
		}
	}
}

// P9.2, W1: of very many states ErrLarge, soon; ErrArg ahead of it.
func TestFarTooManyStates(t *testing.T) {
	for _, s := range []string{"(a|b)*a(a|b){20}", "(a|b)*a(a|b){30}", "(.*a.{15}b){2}", "([ab]*[bc]{10}){3}"} {
		g := places(t, s)
		if d, e := dfa.Build(g); e != api.ErrLarge || len(d.Next) != 0 || len(d.Ends) != 0 {
			t.Errorf("%s: error %d, %d states", s, e, len(d.Next))
		}
		g.Last |= 1 << 63
		wantsArg(t, s, g)
		g = places(t, s)
		g.Follow = append(g.Follow, 0)
		wantsArg(t, s, g)
	}
	// All that are there, each leading to all.
	var g glush.Glush
	for n := range 64 {
		g.Sets = append(g.Sets, class.Not(class.Of(byte(n), byte(n+64))))
		g.Follow = append(g.Follow, ^uint64(0))
	}
	g.First, g.Last = ^uint64(0), 1
	wantsModel(t, "all to all", g)
}

// P9.2: places by chance.
func TestByChance(t *testing.T) {
	r := rand.New(rand.NewSource(92))
	for range 1500 {
		g := anyPlaces(r)
		wantsModel(t, g, g)
	}
}

// P9.3: the texts at which one ends are the language's.
func TestTexts(t *testing.T) {
	r := rand.New(rand.NewSource(93))
	res := []api.Re{}
	for _, s := range []string{"", "a", "a*b", "a(b|c)*", "(a|b)*abb", "(a|ab)(c|bc)", "a{2,3}", "(a?b?){2}", "[^b]*b", "(ab){0,2}c+", ".*", "(a{1,2}b){2,}", "(a|b)*a(a|b){2}"} {
		res = append(res, parse(t, s))
	}
	for range 500 {
		res = append(res, anyRe(r, 1+r.Intn(5)))
	}
	for _, re := range res {
		g, e := glush.Of(re)
		if e != api.OK {
			continue
		}
		d, e := dfa.Build(g)
		if e == api.ErrLarge {
			continue
		}
		eachText("abc", 4, func(s string) {
			if got, want := dfa.Ends(d, s), lang.Match(re, s); e != api.OK || got != want {
				t.Errorf("%s: %q ends %v, by chapter 7 %v", regex.Print(re), s, got, want)
			}
		})
	}
}

// P9.2, W2: the same whatever was asked before, and by however many at once.
func TestSameWhateverWasAsked(t *testing.T) {
	var list []glush.Glush
	var want []string
	for _, s := range []string{"a(b|)[0-9]{2,}", "", "(a|b)*abb", "b{1,9}(a|b){11}", "(a|b)*a(a|b){20}", "a*b"} {
		g := places(t, s)
		d, _ := dfa.Build(g)
		list, want = append(list, g), append(want, tell(d))
	}
	var group sync.WaitGroup
	for from := range 8 {
		group.Go(func() {
			for n := range 2 * len(list) {
				at := (from + n) % len(list)
				if d, _ := dfa.Build(list[at]); tell(d) != want[at] {
					t.Errorf("%d became %s", at, tell(d))
				}
			}
		})
	}
	group.Wait()
}

// W6, W7: what is handed in is left as it is and not kept, what is answered is new memory, spare room too.
func TestMemory(t *testing.T) {
	g := places(t, "(a|b)*abb")
	sets, follow := append(g.Sets, class.Of('!')), append(g.Follow, 77)
	g.Sets, g.Follow = sets[:5], follow[:5]
	told := fmt.Sprint(g, sets, follow)
	first, _ := dfa.Build(g)
	second, _ := dfa.Build(g)
	want := tell(first)
	if got := fmt.Sprint(g, sets, follow); got != told {
		t.Error("what was handed in became", got)
	}
	clear(first.Next[:cap(first.Next)])
	clear(first.Ends[:cap(first.Ends)])
	if got := tell(second); got != want {
		t.Error("another answer became", got)
	}
	third, _ := dfa.Build(g)
	clear(g.Sets)
	clear(g.Follow)
	if tell(second) != want || tell(third) != want {
		t.Error("an answer became", tell(second), tell(third))
	}
	other := clone(second)
	dfa.Is(second)
	dfa.Same(second, third)
	dfa.Ends(second, "ababb")
	if tell(other) != tell(second) || tell(third) != want {
		t.Error("what was handed in became", tell(second))
	}
}

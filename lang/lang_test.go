package lang_test

import (
	"fmt"
	"math"
	"math/rand"
	"slices"
	"strings"
	"sync"
	"testing"

	"winnower/api"
	"winnower/class"
	"winnower/lang"
	"winnower/regex"
)

// P7.1: the example.
func TestExample(t *testing.T) {
	wantsEnds(t, parse(t, "a*"), "aab", 0, 0, 1, 2)
}

// P7.1: each kind, at 0, in the midst, at the end.
func TestEndsOfEachKind(t *testing.T) {
	for _, at := range []struct {
		re   string
		s    string
		at   int
		want []int
	}{
		{"", "", 0, []int{0}},
		{"", "ab", 0, []int{0}},
		{"", "ab", 1, []int{1}},
		{"", "ab", 2, []int{2}},
		{"a", "", 0, nil},
		{"a", "a", 0, []int{1}},
		{"a", "a", 1, nil},
		{"a", "ba", 0, nil},
		{"a", "ba", 1, []int{2}},
		{"a", "ba", 2, nil},
		{".", "\x00\xff", 0, []int{1}},
		{".", "\x00\xff", 1, []int{2}},
		{".", "\x00\xff", 2, nil},
		{"[a-c]", "cd", 0, []int{1}},
		{"[a-c]", "cd", 1, nil},
		{"[^a]", "a\xe4", 0, nil},
		{"[^a]", "a\xe4", 1, []int{2}},
		{"ab", "ab", 0, []int{2}},
		{"ab", "aab", 0, nil},
		{"ab", "aab", 1, []int{3}},
		{"ab", "a", 0, nil},
		{"a()b", "ab", 0, []int{2}},
		{"(ab)c", "abcc", 0, []int{3}},
		{"a|b", "b", 0, []int{1}},
		{"a|b", "c", 0, nil},
		{"a|ab|abc", "abcd", 0, []int{1, 2, 3}},
		{"abc|ab|a", "abcd", 0, []int{1, 2, 3}},
		{"a|a", "aa", 0, []int{1}},
		{"|a", "aa", 0, []int{0, 1}},
		{"ab|b", "ab", 0, []int{2}},
		{"ab|b", "ab", 1, []int{2}},
		{"(a|ab)(c|bcd)", "abcd", 0, []int{3, 4}},
		{"a*", "", 0, []int{0}},
		{"a*", "aaa", 0, []int{0, 1, 2, 3}},
		{"a*", "aaa", 2, []int{2, 3}},
		{"a*", "aaa", 3, []int{3}},
		{"a*", "baa", 0, []int{0}},
		{"a*", "aaba", 1, []int{1, 2}},
		{"a+", "aaa", 0, []int{1, 2, 3}},
		{"a+", "aaa", 3, nil},
		{"a+", "ba", 0, nil},
		{"a?", "aaa", 0, []int{0, 1}},
		{"a?", "b", 0, []int{0}},
		{"(ab)*", "ababa", 0, []int{0, 2, 4}},
		{"(ab)*", "ababa", 1, []int{1}},
		{"(ab|a)*", "aab", 0, []int{0, 1, 2, 3}},
		{"(aa)*", "aaaaa", 0, []int{0, 2, 4}},
		{"(aaa|aa)*", "aaaaaaa", 0, []int{0, 2, 3, 4, 5, 6, 7}},
		{"a*a", "aaa", 0, []int{1, 2, 3}},
		{"a*b", "aaab", 0, []int{4}},
		{".*b", "abab", 0, []int{2, 4}},
		{"a.*", "abc", 0, []int{1, 2, 3}},
	} {
		wantsEnds(t, parse(t, at.re), at.s, at.at, at.want...)
		wantsModel(t, parse(t, at.re), at.s)
	}
}

// P7.1: the ends of Low and High.
func TestEndsOfRepeats(t *testing.T) {
	s := strings.Repeat("a", 40)
	count := func(low, high int) []int {
		var l []int
		for n := low; n <= high; n++ {
			l = append(l, n)
		}
		return l
	}
	for low := range 33 {
		wantsEnds(t, rep(one('a'), low, -1), s, 0, count(low, 40)...)
		wantsEnds(t, rep(one('a'), low, -1), s, 38, moved(count(low, 2), 38)...)
		for high := max(low, 1); high <= 32; high++ {
			wantsEnds(t, rep(one('a'), low, high), s, 0, count(low, high)...)
			wantsEnds(t, rep(one('a'), low, high), s, 30, moved(count(low, min(high, 10)), 30)...)
			wantsEnds(t, rep(one('a'), low, high), s[:low], 0, low)
			if low > 0 {
				wantsEnds(t, rep(one('a'), low, high), s[:low-1], 0)
			}
		}
	}
	wantsEnds(t, rep(seq(one('a'), one('b')), 2, 3), "abababab", 0, 4, 6)
	wantsEnds(t, rep(seq(one('a'), one('b')), 2, -1), "ababababa", 0, 4, 6, 8)
	wantsEnds(t, rep(alt(one('a'), seq(one('a'), one('a'))), 2, 3), "aaaaaaaa", 0, 2, 3, 4, 5, 6)
	wantsEnds(t, rep(rep(one('a'), 2, 3), 2, 2), "aaaaaaaa", 0, 4, 5, 6)
	wantsEnds(t, rep(rep(one('a'), 3, 3), 0, 2), "aaaaaaaa", 0, 0, 3, 6)
	wantsEnds(t, rep(rep(one('a'), 5, -1), 2, -1), s[:12], 0, 10, 11, 12)
}

// moved is a list with each place so much further.
func moved(l []int, by int) []int {
	for i := range l {
		l[i] += by
	}
	return l
}

// P7.1: a Kid that may be empty, in any number.
func TestEndsOfRepeatsOfEmpty(t *testing.T) {
	for _, kid := range []api.Re{empty(), rep(one('a'), 0, 1), star(one('a')), alt(one('a'), empty()), seq(star(one('a')), rep(one('b'), 0, 1)), star(star(one('a'))), alt(empty(), empty()), seq(empty(), empty())} {
		for _, times := range [][2]int{{0, -1}, {1, -1}, {2, -1}, {5, -1}, {0, 1}, {1, 1}, {0, 2}, {2, 2}, {2, 3}, {3, 5}} {
			r := rep(kid, times[0], times[1])
			if !lang.Null(r) {
				t.Errorf("Null(%s)", regex.Print(r))
			}
			for _, s := range []string{"", "a", "aaa", "aaaaaa", "ab", "aabab", "b"} {
				wantsModel(t, r, s)
				wantsModel(t, seq(r, one('b')), s)
				wantsModel(t, star(seq(r, one('b'))), s)
			}
		}
	}
	wantsEnds(t, rep(rep(one('a'), 0, 1), 3, 3), "aaaa", 0, 0, 1, 2, 3)
	wantsEnds(t, rep(rep(one('a'), 0, 1), 2, -1), "aaaa", 0, 0, 1, 2, 3, 4)
	wantsEnds(t, rep(empty(), 32, 32), "aa", 1, 1)
	wantsEnds(t, star(empty()), "aa", 0, 0)
}

// P7.1: none, if at is no place of s.
func TestEndsElsewhere(t *testing.T) {
	for _, r := range []api.Re{empty(), star(all()), one('a'), alt(empty(), one('a'))} {
		for _, s := range []string{"", "a", "aaa"} {
			for _, at := range []int{-1, -2, -100, math.MinInt, math.MinInt + 1, len(s) + 1, len(s) + 2, len(s) + 100, math.MaxInt, math.MaxInt - 1, 1 << 32, -1 << 32} {
				wantsEnds(t, r, s, at)
			}
		}
	}
	wantsEnds(t, empty(), "aaa", 3, 3)
	wantsEnds(t, star(all()), "aaa", 3, 3)
	wantsEnds(t, star(all()), "aaa", 2, 2, 3)
}

// mayNot is expressions that may not be, whose texts the words would tell.
func mayNot() map[string]api.Re {
	a := one('a')
	deep := alt(a, empty())
	for range 16 {
		deep = alt(deep, a)
	}
	stars := a
	for range 5 {
		stars = star(stars)
	}
	l := map[string]api.Re{
		"Empty with a Set":     {Set: class.Of('a')},
		"Empty with Low":       {Low: 1},
		"Empty with a Kid":     {Kids: []api.Re{a}},
		"no byte":              {Kind: api.ReClass},
		"a Set with High":      {Kind: api.ReClass, Set: class.Of('a'), High: -1},
		"Seq of none":          seq(),
		"Seq of one":           seq(a),
		"Alt of one":           alt(star(a)),
		"Alt of none":          alt(),
		"Repeat of none":       {Kind: api.ReRepeat, High: -1},
		"Repeat of two":        {Kind: api.ReRepeat, Kids: []api.Re{a, a}, High: -1},
		"no time":              rep(a, 0, 0),
		"High below Low":       rep(a, 3, 2),
		"Low below 0":          rep(a, -1, -1),
		"High below -1":        rep(a, 0, -2),
		"33":                   rep(a, 0, 33),
		"33 at least":          rep(star(a), 33, -1),
		"the greatest number":  rep(a, 0, math.MaxInt),
		"the least number":     rep(a, math.MinInt, -1),
		"kind 5":               {Kind: 5},
		"kind -1":              {Kind: -1, Set: class.Of('a'), Kids: []api.Re{a, a}},
		"17 deep":              deep,
		"5 Repeats within":     stars,
		"129 nodes":            alt(slices.Repeat([]api.Re{a}, 128)...),
		"too heavy":            rep(rep(a, 0, 32), 0, 32),
		"a Kid that may not":   alt(a, seq(a)),
		"a Kid that may not 2": star(rep(a, 0, 0)),
		"far below":            seq(star(alt(a, rep(seq(a, api.Re{Kind: 7}), 0, 1))), a),
	}
	shared := a
	for range 100 {
		shared = alt(shared, shared)
	}
	l["huge"] = shared
	return l
}

// P7.1: none, if r may not be.
func TestMayNotBe(t *testing.T) {
	for what, r := range mayNot() {
		for _, s := range []string{"", "a", "aa", "aaa"} {
			for at := -1; at <= len(s)+1; at++ {
				if got := lang.Ends(r, s, at); len(got) != 0 {
					t.Errorf("%s: Ends of %q at %d: %v", what, s, at, got)
				}
				if got := lang.Longest(r, s, at); got != -1 {
					t.Errorf("%s: Longest of %q at %d: %d", what, s, at, got)
				}
			}
			if lang.Match(r, s) {
				t.Errorf("%s: Match of %q", what, s)
			}
		}
		if lang.Null(r) {
			t.Errorf("%s: Null", what)
		}
	}
}

// P7.1: what is just small enough has its texts.
func TestJustSmallEnough(t *testing.T) {
	a := one('a')
	deep := alt(a, empty())
	for range 14 {
		deep = alt(deep, seq(a, a))
	}
	wantsEnds(t, deep, "aaa", 0, 0, 1, 2)
	wantsEnds(t, alt(slices.Repeat([]api.Re{a}, 127)...), "aa", 0, 1)
	wantsEnds(t, seq(slices.Repeat([]api.Re{a}, 127)...), strings.Repeat("a", 130), 2, 129)
	wantsEnds(t, rep(seq(slices.Repeat([]api.Re{a}, 32)...), 31, -1), strings.Repeat("a", 1100), 0, 992, 1024, 1056, 1088)
	wantsEnds(t, rep(rep(a, 31, 31), 31, 31), strings.Repeat("a", 1000), 3, 964)
	wantsEnds(t, star(star(star(star(a)))), "aab", 0, 0, 1, 2)
	wantsEnds(t, rep(rep(rep(rep(a, 5, 5), 5, 5), 5, 5), 5, 5), strings.Repeat("a", 700), 7, 632)
}

// P7.1
func TestMatch(t *testing.T) {
	for _, at := range []struct {
		re, s string
		want  bool
	}{
		{"", "", true}, {"", "a", false},
		{"a", "a", true}, {"a", "", false}, {"a", "b", false}, {"a", "ab", false}, {"a", "ba", false}, {"a", "aa", false},
		{"ab", "ab", true}, {"ab", "abc", false}, {"ab", "a", false}, {"ab", "cab", false},
		{"a*", "", true}, {"a*", "aaa", true}, {"a*", "aab", false}, {"a*", "baa", false},
		{"a|ab", "ab", true}, {"a|ab", "a", true}, {"a|ab", "abb", false}, {"(a|ab)(c|bcd)", "abcd", true},
		{"a{2,3}", "a", false}, {"a{2,3}", "aa", true}, {"a{2,3}", "aaa", true}, {"a{2,3}", "aaaa", false},
		{".*", "\x00\xff\n", true}, {"[^a]*", "bca", false}, {"(a|b)*abb", "ababb", true}, {"(a|b)*abb", "abba", false},
		{`"([^"\\]|\\.)*"`, `"a\"b"`, true}, {`"([^"\\]|\\.)*"`, `"a\"`, false}, {`\-?[0-9]+(\.[0-9]+)?`, "-3.5", true}, {`\-?[0-9]+(\.[0-9]+)?`, "3.", false},
		{`[0-9]{1,3}(\.[0-9]{1,3}){3}`, "127.0.0.1", true}, {`[0-9]{1,3}(\.[0-9]{1,3}){3}`, "127.0.0", false}, {`[0-9]{1,3}(\.[0-9]{1,3}){3}`, "127.0.0.1234", false},
	} {
		if got := lang.Match(parse(t, at.re), at.s); got != at.want {
			t.Errorf("Match(%s, %q) = %v", at.re, at.s, got)
		}
	}
	for b := range 256 {
		for c := range 256 {
			if got := lang.Match(one(byte(b)), string([]byte{byte(c)})); got != (b == c) {
				t.Errorf("Match of byte %d, %d: %v", b, c, got)
			}
		}
		if !lang.Match(all(), string([]byte{byte(b)})) || lang.Match(parse(t, fmt.Sprintf(`[^\x%02x]`, b)), string([]byte{byte(b)})) {
			t.Errorf("byte %d", b)
		}
	}
}

// P7.1: none, only the empty text, a shorter and a longer one.
func TestLongest(t *testing.T) {
	for _, at := range []struct {
		re, s    string
		at, want int
	}{
		{"a", "b", 0, -1}, {"a", "", 0, -1}, {"a+", "baa", 0, -1}, {"ab", "a", 0, -1}, {"a", "a", 1, -1}, {"a", "a", -1, -1}, {"a", "a", 2, -1}, {"", "a", 2, -1}, {"", "a", -1, -1},
		{"a*", "b", 0, 0}, {"a*", "ab", 1, 1}, {"a*", "ab", 2, 2}, {"", "", 0, 0}, {"", "ab", 1, 1}, {"a?", "", 0, 0},
		{"a|ab", "ab", 0, 2}, {"ab|a", "ab", 0, 2}, {"ab|a", "ac", 0, 1}, {"a*", "aaab", 1, 3}, {"a{0,2}", "aaaa", 1, 3}, {"a(bcd)?", "abce", 0, 1}, {"a(bcd)?", "abcd", 0, 4}, {"(ab)*", "ababa", 0, 4},
		{"(abcde)?", "abcd", 0, 0}, {".*", "abc", 0, 3}, {".*a", "abab", 0, 3},
	} {
		if got := lang.Longest(parse(t, at.re), at.s, at.at); got != at.want {
			t.Errorf("Longest(%s, %q, %d) = %d, want %d", at.re, at.s, at.at, got, at.want)
		}
	}
}

// P7.1: of each kind, and of each kind within each kind.
func TestNull(t *testing.T) {
	for _, at := range []struct {
		re   string
		want bool
	}{
		{"", true}, {"()", true}, {"a", false}, {".", false}, {"[ab]", false},
		{"ab", false}, {"a()", false}, {"()a", false}, {"()()", true}, {"a*b*", true}, {"a*b", false}, {"ab*", false}, {"a?b*()", true},
		{"a|b", false}, {"a|", true}, {"|a", true}, {"|", true}, {"a|b*", true}, {"a*|b", true}, {"a|bc|d", false},
		{"a*", true}, {"a+", false}, {"a?", true}, {"a{1}", false}, {"a{0,2}", true}, {"a{2,}", false}, {"a{0,}", true}, {"a{1,2}", false},
		{"()*", true}, {"()+", true}, {"(){32}", true}, {"(a*)+", true}, {"(a*){3}", true}, {"(a*){2,}", true}, {"(a*b){2}", false}, {"(a*b)*", true}, {"(a|)+", true}, {"(a|b)+", false}, {"(a+)?", true}, {"(a?)+", true}, {"(a?b)+", false},
		{"(a|b*)(c|)", true}, {"(a|b*)(c|d)", false}, {"((a|)|b)", true}, {"(a(b|)){0,3}", true},
	} {
		if got := lang.Null(parse(t, at.re)); got != at.want {
			t.Errorf("Null(%s) = %v", at.re, got)
		}
	}
}

// P7.1: each kind within each kind, on all short texts.
func TestKindInKind(t *testing.T) {
	kids := []api.Re{empty(), one('a'), anyOf("ab"), all(), seq(one('a'), one('b')), alt(one('a'), seq(one('b'), one('a'))), star(one('a')), rep(one('b'), 1, -1), rep(anyOf("ab"), 0, 1), rep(one('a'), 2, 2), rep(one('a'), 2, 3), rep(one('b'), 2, -1)}
	for _, kid := range kids {
		res := []api.Re{kid, star(kid), rep(kid, 1, -1), rep(kid, 0, 1), rep(kid, 2, 2), rep(kid, 1, 3), rep(kid, 2, -1)}
		for _, other := range kids {
			res = append(res, seq(kid, other), alt(kid, other), star(seq(kid, other)), rep(alt(kid, other), 2, 3))
		}
		eachText("ab", 4, func(s string) {
			for _, r := range res {
				wantsModel(t, r, s)
			}
		})
	}
}

// P7.1: expressions and texts by chance.
func TestByChance(t *testing.T) {
	r := rand.New(rand.NewSource(71))
	for range 4000 {
		re := anyRe(r, 1+r.Intn(5))
		if !regex.Is(re) {
			continue
		}
		for range 4 {
			b := make([]byte, r.Intn(9))
			for i := range b {
				b[i] = "aaabbc"[r.Intn(6)]
			}
			wantsModel(t, re, string(b))
		}
	}
}

// P7.1, W1: Repeats within one another end soon, on long texts too.
func TestLongTexts(t *testing.T) {
	for _, re := range []string{
		"(((a*)*)*)*b", "(((a+)+)+)+b", "((a|aa)*)*b", "((a*b?)*c?)*d", "(a|(a|(a|.*x)*y)*z)*b", "(.*)*b", "((.*a)*.*a)*b", "((a?){8}){8}b", "(a{0,9}){0,9}b",
	} {
		r := parse(t, re)
		n := 20000
		s := strings.Repeat("a", n)
		if lang.Match(r, s) || lang.Longest(r, s, 0) != -1 || len(lang.Ends(r, s, n-100)) != 0 {
			t.Errorf("%s: Match, though there is no b", re)
		}
	}
	s := strings.Repeat("a", 1<<20)
	if got := lang.Longest(parse(t, "(a*)*"), s, 1); got != 1<<20 {
		t.Error(got)
	}
	if got := lang.Ends(star(one('a')), s, 0); len(got) != 1<<20+1 || got[1<<20] != 1<<20 {
		t.Error(len(got))
	}
	if got := lang.Ends(parse(t, "a{3}"), s, 1<<20-3); !slices.Equal(got, []int{1 << 20}) {
		t.Error(got)
	}
}

// asked is all that is told of some expressions and texts, asked in the order of a list.
func asked(res []api.Re, order []int) []string {
	texts := []string{"", "aab", "ab12", "abcd", "aaab", "\xff"}
	told := make([]string, len(order))
	for _, n := range order {
		r, s, at := res[n%len(res)], texts[n/len(res)%len(texts)], n/len(res)/len(texts)-1
		told[n] = fmt.Sprint(lang.Ends(r, s, at), lang.Match(r, s), lang.Longest(r, s, at), lang.Null(r))
	}
	return told
}

// P7.2: the same whatever was asked before, and by however many at once.
func TestSameWhateverWasAsked(t *testing.T) {
	var res []api.Re
	for _, s := range []string{"a(b|)[0-9]{2,}", "a*", "", "(a|ab)(c|bcd)", "((a?){3})*b", ".", "[^a]+", "a{2,3}"} {
		res = append(res, parse(t, s))
	}
	order := make([]int, len(res)*6*6)
	for i := range order {
		order[i] = i
	}
	want := asked(res, order)
	r := rand.New(rand.NewSource(72))
	for range 10 {
		r.Shuffle(len(order), func(i, k int) { order[i], order[k] = order[k], order[i] })
		if got := asked(res, order); !slices.Equal(got, want) {
			t.Error("in another order:", got)
		}
	}
	var group sync.WaitGroup
	for range 8 {
		mine := slices.Clone(order)
		r.Shuffle(len(mine), func(i, k int) { mine[i], mine[k] = mine[k], mine[i] })
		group.Go(func() {
			if got := asked(res, mine); !slices.Equal(got, want) {
				t.Error("at once:", got)
			}
		})
	}
	group.Wait()
}

// W6, W7: what is handed in is left as it is, what is answered is new memory.
func TestMemory(t *testing.T) {
	kids := []api.Re{one('a'), star(one('b')), one('!'), one('?')}
	r := seq(kids[:2]...)
	first := lang.Ends(r, "abbb", 0)
	second := lang.Ends(r, "abbb", 0)
	clear(first[:cap(first)])
	_ = append(first, 7)
	if want := []int{1, 2, 3, 4}; !slices.Equal(second, want) || !slices.Equal(lang.Ends(r, "abbb", 0), want) {
		t.Error("another answer became", second)
	}
	lang.Match(r, "abb")
	lang.Longest(r, "abb", 0)
	lang.Null(r)
	if !regex.Same(seq(kids...), seq(one('a'), star(one('b')), one('!'), one('?'))) {
		t.Error("what was handed in became", regex.Print(seq(kids...)))
	}
	kids[1].Kids[0] = one('c')
	wantsEnds(t, r, "abbcc", 0, 1)
	wantsEnds(t, r, "acc", 0, 1, 2, 3)
	if !slices.Equal(second, []int{1, 2, 3, 4}) {
		t.Error("an answer became", second)
	}
}

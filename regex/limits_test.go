package regex_test

import (
	"math"
	"math/rand"
	"strings"
	"testing"

	"winnower/api"
	"winnower/class"
	"winnower/regex"
)

// wantsMay holds what each call tells of whether an expression may be; and, if it may, that Parse of Print is it.
func wantsMay(t *testing.T, what any, r api.Re, want bool) {
	t.Helper()
	before := tell(r)
	if got := regex.Is(r); got != want {
		t.Errorf("%v: Is %v, want %v", what, got, want)
	}
	text := ""
	if want {
		text = plainPrint(r)
		wantsParse(t, text, r)
	}
	if got := regex.Print(r); got != text {
		t.Errorf("%v: Print %q, want %q", what, got, text)
	}
	if tell(r) != before {
		t.Errorf("%v: became %s", what, tell(r))
	}
}

// wantsSize holds a formed expression that is just small enough, or just not: Parse of its text too.
func wantsSize(t *testing.T, what string, r api.Re, want bool) {
	t.Helper()
	wantsMay(t, what, r, want)
	if text := plainPrint(r); !want && len(text) <= 1024 {
		wantsError(t, text, api.ErrLong, 0)
	}
}

// P6.1: more than 1024 bytes are ErrLong, ahead of all.
func TestLongTexts(t *testing.T) {
	nest := func(n int, s string) string { return strings.Repeat("(", n) + s + strings.Repeat(")", n) }
	wantsParse(t, nest(511, "ab"), seq(a(), one('b')))
	wantsParse(t, nest(512, ""), empty())
	wantsParse(t, nest(511, "a"), a())
	wantsError(t, nest(512, "a"), api.ErrLong, 0)
	wantsError(t, nest(512, "a*"), api.ErrLong, 0)
	wantsError(t, nest(513, ""), api.ErrLong, 0)
	wantsError(t, strings.Repeat("*", 1024), api.ErrForm, 0)
	wantsError(t, strings.Repeat("*", 1025), api.ErrLong, 0)
	wantsError(t, strings.Repeat("(", 1024), api.ErrForm, 1024)
	wantsError(t, strings.Repeat("(", 1025), api.ErrLong, 0)
	wantsError(t, strings.Repeat("a", 1023)+"-", api.ErrForm, 1023)
	wantsError(t, strings.Repeat("a", 1024)+"-", api.ErrLong, 0)
	wantsError(t, strings.Repeat("a", 1024), api.ErrLong, 0)
	wantsError(t, strings.Repeat("a", 1025), api.ErrLong, 0)
	wantsError(t, strings.Repeat("(", 1<<20), api.ErrLong, 0)
	wantsParse(t, "["+strings.Repeat("ab", 511)+"]", of(class.Of('a', 'b')))
	wantsError(t, "["+strings.Repeat("ab", 511)+"a]", api.ErrLong, 0)
}

// P6.1: an error of form is told ahead of a size.
func TestFormAheadOfSize(t *testing.T) {
	wantsError(t, strings.Repeat("a", 200), api.ErrLong, 0)
	wantsError(t, strings.Repeat("a", 200)+"-", api.ErrForm, 200)
	wantsError(t, "(((((a*)*)*)*)*)", api.ErrLong, 0)
	wantsError(t, "(((((a*)*)*)*)*))", api.ErrForm, 16)
	wantsError(t, "((a{32}){32}){32}", api.ErrLong, 0)
	wantsError(t, "((a{32}){32}){33}", api.ErrForm, 16)
}

// deep is one that is so deep, of one kind of nodes.
func deep(n int, wrap func(r api.Re) api.Re) api.Re {
	r := a()
	for range n - 1 {
		r = wrap(r)
	}
	return r
}

// P6.2: at most 16 deep.
func TestDeep(t *testing.T) {
	for what, wrap := range map[string]func(r api.Re) api.Re{
		"first of a Seq": func(r api.Re) api.Re { return seq(r, a()) },
		"last of a Seq":  func(r api.Re) api.Re { return seq(a(), r) },
		"first of Alt":   func(r api.Re) api.Re { return alt(r, a()) },
		"last of Alt":    func(r api.Re) api.Re { return alt(a(), empty(), r) },
	} {
		wantsSize(t, what, deep(15, wrap), true)
		wantsSize(t, what, deep(16, wrap), true)
		wantsSize(t, what, deep(17, wrap), false)
		wantsSize(t, what, deep(18, wrap), false)
		wantsSize(t, what+", in Repeats", rep(star(deep(14, wrap)), 1, 2), true)
		wantsSize(t, what+", in Repeats", rep(star(deep(15, wrap)), 1, 2), false)
	}
	leaves := []api.Re{a(), all(), empty()}
	for _, leaf := range leaves {
		wrap := func(r api.Re) api.Re { return alt(r, leaf) }
		inner := deep(15, wrap)
		wantsSize(t, "16", seq(leaf, inner), true)
		wantsSize(t, "17", seq(leaf, alt(inner, leaf)), false)
	}
	wantsParse(t, strings.Repeat("(a", 14)+"(ab)"+strings.Repeat(")", 14), deepSeq(14))
	wantsError(t, strings.Repeat("(a", 15)+"(ab)"+strings.Repeat(")", 15), api.ErrLong, 0)
}

// deepSeq is n Seqs in one another, around "ab".
func deepSeq(n int) api.Re {
	r := seq(a(), one('b'))
	for range n {
		r = seq(a(), r)
	}
	return r
}

// P6.2: at most 128 nodes.
func TestNodes(t *testing.T) {
	wantsSize(t, "a Seq", seq(many(127, a)...), true)
	wantsSize(t, "a Seq", seq(many(128, a)...), false)
	wantsSize(t, "an Alt", alt(many(127, a)...), true)
	wantsSize(t, "an Alt", alt(many(128, a)...), false)
	wantsSize(t, "an Alt of Empty", alt(many(127, empty)...), true)
	wantsSize(t, "an Alt of Empty", alt(many(128, empty)...), false)
	wantsSize(t, "a Seq of Empty", seq(many(127, empty)...), true)
	wantsSize(t, "a Seq of Empty", seq(many(128, empty)...), false)
	stars := func() api.Re { return star(a()) }
	wantsSize(t, "a Seq of Repeats", seq(append(many(63, stars), a())...), true)
	wantsSize(t, "a Seq of Repeats", seq(many(64, stars)...), false)
	pairs := func() api.Re { return seq(a(), a()) }
	wantsSize(t, "an Alt of Seqs", alt(append(many(42, pairs), a())...), true)
	wantsSize(t, "an Alt of Seqs", alt(append(many(42, pairs), a(), a())...), false)
	wantsParse(t, strings.Repeat("a", 127), seq(many(127, a)...))
	wantsError(t, strings.Repeat("a", 128), api.ErrLong, 0)
	wantsError(t, strings.Repeat("(|)", 43), api.ErrLong, 0)
	wantsError(t, strings.Repeat("|", 127), api.ErrLong, 0)
}

// P6.2: a weight of at most 1024.
func TestWeight(t *testing.T) {
	as := func(n int) api.Re { return seq(many(n, a)...) }
	// A Seq of 32 weighs 33, and 1 + 33 * 31 is 1024; a Seq of 31 weighs 32, and 1 + 32 * 32 is 1025.
	for _, low := range []int{0, 1, 30, 31} {
		wantsSize(t, "just", rep(as(32), low, 31), true)
		wantsSize(t, "one more time", rep(as(32), low, 32), false)
		wantsSize(t, "one more node", rep(as(33), low, 31), false)
		wantsSize(t, "just not", rep(as(31), low, 32), false)
		wantsSize(t, "just", rep(as(30), low, 32), true)
	}
	wantsSize(t, "without end", rep(as(32), 31, -1), true)
	wantsSize(t, "without end", rep(as(31), 32, -1), false)
	wantsSize(t, "in a Seq", seq(rep(as(32), 0, 31), a()), false)
	// Of a Repeat that may be none its Kid weighs once at least.
	wantsSize(t, "a star within", rep(star(as(31)), 31, 31), true)
	wantsSize(t, "a star within", rep(star(as(30)), 32, 32), false)
	wantsSize(t, "a question within", rep(rep(as(31), 0, 1), 0, 31), true)
	wantsSize(t, "a question within", rep(rep(as(30), 0, 1), 0, 32), false)
	wantsSize(t, "an Alt", rep(alt(many(32, a)...), 31, -1), true)
	wantsSize(t, "an Alt", rep(alt(many(31, empty)...), 32, -1), false)
	// What Kids weigh is added up: 1 + 513 + 33 + 476 is 1023, and 1 + 513 + 497 is 1011.
	wantsSize(t, "three heavy ones", seq(rep(as(31), 16, 16), rep(a(), 32, 32), rep(as(24), 19, 19), a()), true)
	wantsSize(t, "three heavy ones", seq(rep(as(31), 16, 16), rep(a(), 32, 32), rep(as(24), 19, 19), a(), a()), false)
	wantsSize(t, "two heavy ones", alt(rep(as(31), 16, 16), rep(as(15), 31, 31), rep(a(), 12, 12)), true)
	wantsSize(t, "two heavy ones", alt(rep(as(31), 16, 16), rep(as(15), 31, 31), rep(a(), 13, 13)), false)
	wantsSize(t, "four within", rep(rep(rep(rep(a(), 5, 5), 5, 5), 5, 5), 5, 5), true)
	wantsSize(t, "four within", rep(rep(rep(rep(a(), 32, 32), 32, 32), 32, 32), 32, 32), false)
	wantsSize(t, "three within", rep(rep(rep(a(), 10, 10), 10, 10), 10, 10), false)
	wantsParse(t, "(a{31}){31}", rep(rep(a(), 31, 31), 31, 31))
	wantsError(t, "(a{31}){32}", api.ErrLong, 0)
}

// P6.2: no more than 4 Repeats within one another, whatever stands between; beside one another as many as are.
func TestWithin(t *testing.T) {
	for what, between := range map[string]func(r api.Re) api.Re{
		"nothing":  func(r api.Re) api.Re { return r },
		"a Seq":    func(r api.Re) api.Re { return seq(a(), r) },
		"an Alt":   func(r api.Re) api.Re { return alt(r, empty()) },
		"Seq, Alt": func(r api.Re) api.Re { return alt(seq(r, a()), a()) },
	} {
		r := between(a())
		for n := 1; n <= 6; n++ {
			r = between(star(r))
			if plainDeep(r) <= 16 {
				wantsSize(t, what, r, n <= 4)
			}
		}
	}
	r := a()
	for n := 1; n <= 6; n++ {
		r = rep(r, n%2, []int{-1, 1, 2}[n%3])
		wantsSize(t, "any", r, n <= 4)
	}
	stars := func() api.Re { return star(rep(star(rep(a(), 1, -1)), 0, 1)) }
	wantsSize(t, "side by side", seq(many(9, stars)...), true)
	wantsSize(t, "side by side", alt(many(9, stars)...), true)
	wantsSize(t, "one of them too many", alt(stars(), star(alt(a(), stars())), a()), false)
	wantsParse(t, "(((a*)+)?){2}", rep(rep(rep(star(a()), 1, -1), 0, 1), 2, 2))
	wantsError(t, "((((a*)+)?){2})*", api.ErrLong, 0)
}

// gaps is the set of n bytes that print as \x and two digits each, none beside another.
func gaps(n int) api.Re {
	var bytes []byte
	for b := 0; b < 48; b += 2 {
		bytes = append(bytes, byte(b))
	}
	for b := 128; b < 256; b += 2 {
		bytes = append(bytes, byte(b))
	}
	return of(class.Of(bytes[:n]...))
}

// raw is the text of gaps in plain bytes, where they are no signs.
func raw(r api.Re) string {
	var s strings.Builder
	for _, b := range class.List(r.Set) {
		if strings.IndexByte(plainSigns, b) >= 0 {
			s.WriteByte('\\')
		}
		s.WriteByte(b)
	}
	return "[" + s.String() + "]"
}

// P6.2: a text of at most 1024 bytes: that of Print, however short the one is that Parse was given.
func TestTextSize(t *testing.T) {
	sets := []api.Re{gaps(85), gaps(85), gaps(84)}
	row := raw(sets[0]) + raw(sets[1]) + raw(sets[2])
	just, more := seq(append(sets, ofBytes("ab")...)...), seq(append(sets, ofBytes("abc")...)...)
	if n := len(plainPrint(just)); n != 1024 {
		t.Fatal(n)
	}
	wantsMay(t, "just", just, true)
	wantsMay(t, "just not", more, false)
	wantsParse(t, row+"ab", just)
	wantsError(t, row+"abc", api.ErrLong, 0)
	wantsError(t, row+"a_", api.ErrLong, 0)
	wantsError(t, row+"(ab)", api.ErrLong, 0)
	wantsParse(t, row+"a*", seq(append(sets, star(a()))...))
	wantsError(t, row+"ab*", api.ErrLong, 0)
	wantsParse(t, "(((("+row+"ab))))", just)
	wantsMay(t, "an Alt, just", alt(gaps(85), gaps(85), gaps(84)), true)
	wantsMay(t, "an Alt, just not", alt(gaps(85), gaps(85), gaps(84), a()), false)
	wantsError(t, raw(gaps(85))+"|"+raw(gaps(85))+"|"+raw(gaps(84))+"|a", api.ErrLong, 0)
	// What stands for a byte in the text is told in digits by Print, and too long.
	wantsError(t, raw(gaps(88))+raw(gaps(88))+raw(gaps(88)), api.ErrLong, 0)
}

// P6.2: what a Kind does not name is nothing, what it names is there.
func TestFields(t *testing.T) {
	set := class.Of('a')
	for what, r := range map[string]api.Re{
		"Empty with a Set":        {Kind: api.ReEmpty, Set: set},
		"Empty with a Set's end":  {Kind: api.ReEmpty, Set: api.Set{3: 1 << 63}},
		"Empty with a Kid":        {Kind: api.ReEmpty, Kids: []api.Re{a()}},
		"Empty with an Empty Kid": {Kind: api.ReEmpty, Kids: []api.Re{{}}},
		"Empty with Low":          {Kind: api.ReEmpty, Low: 1},
		"Empty with High":         {Kind: api.ReEmpty, High: -1},
		"a Set without a byte":    {Kind: api.ReClass},
		"a Set with a Kid":        {Kind: api.ReClass, Set: set, Kids: []api.Re{a()}},
		"a Set with Low":          {Kind: api.ReClass, Set: set, Low: -1},
		"a Set with High":         {Kind: api.ReClass, Set: set, High: 1},
		"a Set with both":         {Kind: api.ReClass, Set: set, Low: 1, High: 1},
		"Seq of none":             {Kind: api.ReSeq},
		"Seq of one":              {Kind: api.ReSeq, Kids: []api.Re{a()}},
		"Seq with a Set":          {Kind: api.ReSeq, Set: set, Kids: []api.Re{a(), a()}},
		"Seq with Low":            {Kind: api.ReSeq, Low: 1, Kids: []api.Re{a(), a()}},
		"Seq with High":           {Kind: api.ReSeq, High: -1, Kids: []api.Re{a(), a()}},
		"Alt of none":             {Kind: api.ReAlt},
		"Alt of one":              {Kind: api.ReAlt, Kids: []api.Re{a()}},
		"Alt with a Set":          {Kind: api.ReAlt, Set: set, Kids: []api.Re{a(), a()}},
		"Alt with Low":            {Kind: api.ReAlt, Low: -1, Kids: []api.Re{a(), a()}},
		"Alt with High":           {Kind: api.ReAlt, High: 2, Kids: []api.Re{a(), a()}},
		"Repeat of none":          {Kind: api.ReRepeat, High: -1},
		"Repeat of two":           {Kind: api.ReRepeat, Kids: []api.Re{a(), a()}, High: -1},
		"Repeat with a Set":       {Kind: api.ReRepeat, Set: set, Kids: []api.Re{a()}, High: -1},
		"kind -1":                 {Kind: -1},
		"kind 5":                  {Kind: 5},
		"kind 5 with all":         {Kind: 5, Set: set, Kids: []api.Re{a(), a()}, High: -1},
		"the least kind":          {Kind: math.MinInt},
		"the greatest kind":       {Kind: math.MaxInt, Set: set},
	} {
		wantsMay(t, what, r, false)
		wantsMay(t, what+", in a Seq", seq(a(), r), false)
		wantsMay(t, what+", in a Seq", seq(r, a(), a()), false)
		wantsMay(t, what+", in an Alt", alt(a(), r), false)
		wantsMay(t, what+", in a Repeat", star(r), false)
		wantsMay(t, what+", far below", alt(a(), star(seq(rep(r, 1, 2), a()))), false)
	}
	wantsMay(t, "a Seq of two", seq(a(), a()), true)
	wantsMay(t, "an Alt of two", alt(a(), a()), true)
	for what, r := range map[string]api.Re{
		"Empty": {Kids: []api.Re{}},
		"a Set": {Kind: api.ReClass, Set: set, Kids: []api.Re{}},
	} {
		wantsMay(t, what+" with an empty list", r, true)
	}
	for what, r := range map[string]api.Re{
		"Seq":    {Kind: api.ReSeq, Kids: []api.Re{}},
		"Alt":    {Kind: api.ReAlt, Kids: []api.Re{}},
		"Repeat": {Kind: api.ReRepeat, Kids: []api.Re{}, High: -1},
	} {
		wantsMay(t, what+" with an empty list", r, false)
	}
}

// P6.2: Low and High.
func TestLowAndHigh(t *testing.T) {
	numbers := []int{math.MinInt, math.MinInt + 1, -100, math.MaxInt - 1, math.MaxInt, 1 << 32, -1 << 32, 1<<32 + 1}
	for n := -3; n < 70; n++ {
		numbers = append(numbers, n)
	}
	for _, low := range numbers {
		for _, high := range numbers {
			may := low >= 0 && low <= 32 && (high == -1 || high >= 1 && high >= low && high <= 32)
			r := rep(a(), low, high)
			if got := regex.Is(r); got != may {
				t.Errorf("Low %d, High %d: Is %v", low, high, got)
			}
			if got := regex.Print(r); (got != "") != may {
				t.Errorf("Low %d, High %d: Print %q", low, high, got)
			}
		}
	}
}

// P6.2, W1: what is too large by far is told of, too.
func TestHuge(t *testing.T) {
	wide := many(1<<20, a)
	wantsNot(t, "a wide Seq", seq(wide...))
	wantsNot(t, "a wide Alt", alt(wide...))
	wantsNot(t, "a wide Empty", api.Re{Kids: wide})
	tall, stars := a(), a()
	for range 1 << 16 {
		tall = alt(empty(), seq(a(), tall))
		stars = rep(stars, 32, 32)
	}
	wantsNot(t, "a deep one", tall)
	wantsNot(t, "Repeats within", stars)
	shared := a()
	for range 100 {
		shared = seq(shared, shared, shared)
	}
	wantsNot(t, "one whose lists stand in it many times", shared)
	for _, deepest := range []func(r api.Re) api.Re{
		func(r api.Re) api.Re { return rep(r, 32, 32) },
		func(r api.Re) api.Re { return seq(r, r) },
	} {
		r := a()
		for range 15 {
			r = deepest(r)
		}
		wantsNot(t, "16 deep, too heavy", r)
	}
}

// wantsNot holds an expression that may not be and is too large to be told.
func wantsNot(t *testing.T, what string, r api.Re) {
	t.Helper()
	if regex.Is(r) || regex.Print(r) != "" {
		t.Errorf("%s: Is %v, Print of %d bytes", what, regex.Is(r), len(regex.Print(r)))
	}
}

// P6.2: expressions by chance, some of them spoilt, are held against plain words.
func TestMayByChance(t *testing.T) {
	r := rand.New(rand.NewSource(62))
	may := 0
	for range 30000 {
		re := anyRe(r, 1+r.Intn(7))
		if r.Intn(2) == 0 {
			spoil(r, &re)
		}
		wantsMay(t, tell(re), re, plainMay(re))
		if plainMay(re) {
			may++
		}
	}
	if may < 5000 || may > 25000 {
		t.Error("too few of one kind:", may)
	}
}

// spoil changes one thing in an expression.
func spoil(r *rand.Rand, re *api.Re) {
	for len(re.Kids) > 0 && r.Intn(4) > 0 {
		re = &re.Kids[r.Intn(len(re.Kids))]
	}
	switch r.Intn(7) {
	case 0:
		re.Kind = r.Intn(7) - 1
	case 1:
		re.Set = api.Set{}
	case 2:
		re.Set[r.Intn(4)] ^= 1 << r.Intn(64)
	case 3:
		re.Low = r.Intn(36) - 2
	case 4:
		re.High = r.Intn(36) - 2
	case 5:
		re.Kids = re.Kids[:r.Intn(len(re.Kids)+1)]
	case 6:
		re.Kids = append(re.Kids, anyRe(r, 3))
	}
}

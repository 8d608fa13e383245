package tree_test

import (
	"fmt"
	"math"
	"math/rand"
	"slices"
	"strings"
	"testing"

	"winnower/api"
	"winnower/lexer"
	"winnower/part"
	"winnower/tree"
)

// P15.1: the example.
func TestExample(t *testing.T) {
	x, l := tree.New(), lexer.New()
	wants(t, x, lex(t, l, "up 3"), 1, "3")
	wants(t, x, lex(t, l, "up 4"), 1, "4")
	if got, ok := x.Template(1); !ok || x.Len() != 2 || tellTemplate(got) != `["up" " " any""]` {
		t.Error(x.Len(), tellTemplate(got))
	}
	if got, ok := x.Template(0); !ok || tellTemplate(got) != `[any""]` {
		t.Error(tellTemplate(got))
	}
}

// P15.1, P15.2: a new tree.
func TestNew(t *testing.T) {
	x := tree.New()
	if x.Len() != 1 || x.Leaves() != 0 {
		t.Error(x.Len(), x.Leaves())
	}
	wantsTemplates(t, "new", x)
	if got := x.Encode(); !slices.Equal(got, []byte{1, 0}) {
		t.Errorf("%x", got)
	}
	// Two of them are two.
	other := tree.New()
	wants(t, x, words("a"), 1)
	if other.Len() != 1 || other.Leaves() != 0 {
		t.Error(other.Len(), other.Leaves())
	}
}

// P15.2: of 0, of the last, behind it, below 0.
func TestTemplate(t *testing.T) {
	x := tree.New()
	for n := range 4 {
		for _, id := range []int{n + 1, n + 2, 63, 64, 1000, math.MaxInt, -1, -2, math.MinInt} {
			if got, ok := x.Template(id); ok || len(got) != 0 {
				t.Errorf("Template(%d) of %d: %s, %v", id, n+1, tellTemplate(got), ok)
			}
		}
		for id := range n + 1 {
			if got, ok := x.Template(id); !ok || len(got) != max(id, 1) {
				t.Errorf("Template(%d) of %d: %s, %v", id, n+1, tellTemplate(got), ok)
			}
		}
		wants(t, x, slices.Repeat(words("a"), n+1), n+1)
		if x.Len() != n+2 || x.Leaves() != n+1 {
			t.Error(x.Len(), x.Leaves())
		}
	}
}

// P15.1: no token, MaxParts, one more.
func TestHowManyTokens(t *testing.T) {
	x := tree.New()
	wantsOverflow(t, x, nil)
	wantsOverflow(t, x, []api.Token{})
	for _, n := range []int{65, 66, 100, 1000} {
		wantsOverflow(t, x, slices.Repeat(words("ab", "#7"), n)[:n])
	}
	if x.Len() != 1 || x.Leaves() != 0 {
		t.Error(x.Len(), x.Leaves())
	}
	many := slices.Repeat(words("ab"), 64)
	wants(t, x, many, 1)
	wants(t, x, many[:63], 2)
	wantsOverflow(t, x, append(many, tok(api.TokWord, "ab")))
	wantsTemplates(t, "64 and 63", x, strings.Repeat("ab ", 64), strings.Repeat("ab ", 63))
}

// P15.1: a leaf's keys, by the kinds of the first two tokens; of one token the second key is empty.
func TestKeys(t *testing.T) {
	for kind := -1; kind <= 10; kind++ {
		key := "*"
		if kind == api.TokWord || kind == api.TokBlank || kind == api.TokOther {
			key = "x"
		}
		for _, at := range []struct {
			tokens []api.Token
			keys   []byte
		}{
			{[]api.Token{tok(kind, "x")}, slices.Concat(nums(1), row(key), row(""))},
			{[]api.Token{tok(kind, "x"), tok(api.TokWord, "y")}, slices.Concat(nums(2), row(key), row("y"))},
			{[]api.Token{tok(api.TokWord, "y"), tok(kind, "x")}, slices.Concat(nums(2), row("y"), row(key))},
			{[]api.Token{tok(kind, "x"), tok(kind, "x"), tok(api.TokWord, "z")}, slices.Concat(nums(3), row(key), row(key))},
			{[]api.Token{tok(api.TokWord, "y"), tok(api.TokWord, "z"), tok(kind, "x")}, slices.Concat(nums(3), row("y"), row("z"))},
		} {
			x := tree.New()
			x.Assign(at.tokens...)
			want := slices.Concat(at.keys, nums(1, 1))
			if got := x.Encode(); !strings.HasSuffix(string(got), string(append([]byte{1}, want...))) {
				t.Errorf("Assign(%v): %x, its leaf is not %x", at.tokens, got, want)
			}
		}
	}
}

// P15.1: as many tokens with the same keys are of one leaf; all others are not.
func TestLeaves(t *testing.T) {
	x := tree.New()
	for i, at := range []struct {
		tokens []api.Token
		leaves int
	}{
		{words("a"), 1}, {words("b"), 2}, {words("a"), 2}, {words("a", "a"), 3}, {words("a", "b"), 4}, {words("b", "a"), 5}, {words("a", "b"), 5}, {words("a", "b", "c"), 6}, {words("a", "b", "d"), 6}, {words("a", "b", "d", "e"), 7}, {words("#1"), 8}, {words("#2"), 8}, {words("a", "#1"), 9}, {words("a", "#2"), 9}, {words("#1", "a"), 10}, {words("#2", "#3"), 11}, {words("ab"), 12},
		// A text * is the key of what varies.
		{words("*"), 12}, {words("a", "*"), 12}, {[]api.Token{tok(api.TokIP, "1.2.3.4")}, 12}, {[]api.Token{tok(api.TokOther, "a")}, 12}, {[]api.Token{tok(99, "a")}, 12}, {words(""), 13}, {words("a", ""), 14}, {words("", "a"), 15},
	} {
		x.Assign(at.tokens...)
		if got := x.Leaves(); got != at.leaves {
			t.Errorf("%d: %v: %d leaves, want %d", i, at.tokens, got, at.leaves)
		}
	}
}

// P15.1: the group with the greatest Alike, of alike ones the first.
func TestGroups(t *testing.T) {
	x := tree.New()
	wants(t, x, split("a b c c c c"), 1)
	wants(t, x, split("a b d d d d"), 2)
	wants(t, x, split("a b e e e e"), 3)
	if x.Leaves() != 1 {
		t.Error(x.Leaves())
	}
	// The last, the one in the midst, the first.
	wants(t, x, split("a b e e e x"), 4, "x")
	wants(t, x, split("a b x d d d"), 5, "x")
	wants(t, x, split("a b c y c c"), 6, "y")
	wantsTemplates(t, "each its own", x, "a b c c c c", "a b d d d d", "a b e e e e", "a b e e e *", "a b * d d d", "a b c * c c")
	// Five parts of the first group's template, four of the second one's.
	wants(t, x, split("a b z d c c"), 7, "z", "d")
	wantsTemplates(t, "each its own, and one more", x, "a b c c c c", "a b d d d d", "a b e e e e", "a b e e e *", "a b * d d d", "a b c * c c", "a b * * c c")
	// Of two that are just as alike the first: four of six parts, then five of six.
	x = tree.New()
	wants(t, x, split("a b c c c c"), 1)
	wants(t, x, split("a b d d d d"), 2)
	wants(t, x, split("a b d d c c"), 3, "d", "d")
	wants(t, x, split("a b d d d c"), 4, "d", "d", "d")
	wantsTemplates(t, "just as alike", x, "a b c c c c", "a b d d d d", "a b * * c c", "a b * * * c")
	wants(t, x, split("a b d d d d"), 2)
	wants(t, x, split("a b e e c c"), 4, "e", "e", "c")
	if x.Leaves() != 1 || x.Len() != 5 {
		t.Error(x.Leaves(), x.Len())
	}
}

// P15.1: twice Alike just below the count: a new group; just the count: Merged.
func TestHalf(t *testing.T) {
	for _, at := range []struct {
		first, second string
		merged        string // empty: a new group
	}{
		{"a", "a", "a"},
		{"a b", "a b", "a b"},
		{"a b c", "a b x", "a b *"},
		{"a b c d", "a b x y", "a b * *"},
		{"a b c d e", "a b x y z", ""},
		{"a b c d e", "a b x y e", "a b * * e"},
		{"a b c d e f", "a b x y z f", "a b * * * f"},
		{"a b c d e f", "a b w x y z", ""},
		{"a b c d e f g", "a b c w x y z", ""},
		{"a b c d e f g", "a b c d x y z", "a b c d * * *"},
		{"#1 b c d e f", "#2 b w x y z", ""},
		{"#1 b #1 d e f", "#2 b w x y z", "* b * * * *"},
		{"#1", "#2", "*"},
		{"#1 #1 #1 d e f", "#2 #2 w x y z", "* * * * * *"},
	} {
		x := tree.New()
		x.Assign(split(at.first)...)
		id := x.Assign(split(at.second)...).ID
		want, groups := template(at.merged), 1
		if at.merged == "" {
			want, groups = part.Of(split(at.second)...), 2
		}
		if got, ok := x.Template(id); !ok || tellTemplate(got) != tellTemplate(want) || x.Leaves() != 1 {
			t.Errorf("%s, %s: %d is %s, want %s", at.first, at.second, id, tellTemplate(got), tellTemplate(want))
		}
		if b := x.Encode(); int(b[len(b)-1-groups]) != groups {
			t.Errorf("%s, %s: %x has not %d groups", at.first, at.second, b, groups)
		}
	}
	// One token that is not alike at all: twice none is below one.
	x := tree.New()
	wants(t, x, []api.Token{tok(99, "a")}, 1)
	wants(t, x, []api.Token{tok(99, "b")}, 2)
	wants(t, x, words("#7"), 3, "7")
	wants(t, x, []api.Token{tok(99, "c")}, 3, "c")
	wantsTemplates(t, "one token", x, "a", "b", "*")
}

// P15.1: a Merge that is the template itself is its number; else a new template, and the group is at it; the old one stays.
func TestMerged(t *testing.T) {
	x := tree.New()
	wants(t, x, split("a b c d"), 1)
	wants(t, x, split("a b c d"), 1)
	wants(t, x, split("a b c x"), 2, "x")
	wants(t, x, split("a b c x"), 2, "x")
	wants(t, x, split("a b c d"), 2, "d")
	wants(t, x, split("a b y d"), 3, "y", "d")
	wants(t, x, split("a b c d"), 3, "c", "d")
	wants(t, x, split("a b c #9"), 3, "c", "9")
	wantsTemplates(t, "wider and wider", x, "a b c d", "a b c *", "a b * *")
	want := slices.Concat(nums(4), nums(4), []byte("\x00\x01a\x00\x01b\x00\x01c\x00\x01d"), nums(4), []byte("\x00\x01a\x00\x01b\x00\x01c\x01"), nums(4), []byte("\x00\x01a\x00\x01b\x01\x01"), nums(1, 4), []byte("\x01a\x01b"), nums(1, 3))
	if got := x.Encode(); !slices.Equal(got, want) {
		t.Errorf("%x, want %x", got, want)
	}
	// A Merge widens what is not the token's text; a number that was Any stays.
	x = tree.New()
	wants(t, x, split("up #3 of #4"), 1, "3", "4")
	wants(t, x, split("up #5 of #6"), 1, "5", "6")
	wants(t, x, split("up #5 in #6"), 2, "5", "in", "6")
	wantsTemplates(t, "numbers", x, "up * of *", "up * * *")
}

// P15.1: a new leaf at MaxLeaves leaves overflows; what has a leaf does not.
func TestMostLeaves(t *testing.T) {
	x := tree.New()
	for n := range api.MaxLeaves {
		wants(t, x, words(fmt.Sprint("k", n), "a", "b"), n+1)
	}
	if x.Leaves() != 32 || x.Len() != 33 {
		t.Error(x.Leaves(), x.Len())
	}
	for _, tokens := range [][]api.Token{words("k32", "a", "b"), words("k0"), words("k0", "b", "b"), words("k0", "a"), words("k0", "a", "b", "c"), words("#1", "a", "b")} {
		wantsOverflow(t, x, tokens)
	}
	wants(t, x, words("k31", "a", "b"), 32)
	wants(t, x, words("k31", "a", "c"), 33, "c")
	wants(t, x, words("k0", "a", "b"), 1)
	wantsOverflow(t, x, words("k33", "a", "b"))
}

// P15.1: a new group at MaxGroups groups overflows; what is alike to one of them does not.
func TestMostGroups(t *testing.T) {
	x := tree.New()
	for n := range api.MaxGroups {
		wants(t, x, append(words("a", "b"), slices.Repeat(words(fmt.Sprint("g", n)), 4)...), n+1)
	}
	if x.Leaves() != 1 || x.Len() != 9 {
		t.Error(x.Leaves(), x.Len())
	}
	for _, tokens := range [][]api.Token{split("a b g8 g8 g8 g8"), split("a b w x y z"), split("a b #1 #2 #3 #4")} {
		wantsOverflow(t, x, tokens)
	}
	wants(t, x, split("a b g7 g7 g7 g7"), 8)
	wants(t, x, split("a b g7 g7 g7 z"), 9, "z")
	wants(t, x, split("a b g0 x y z"), 10, "x", "y", "z")
	// Another leaf, and one group of it, are no trouble.
	wants(t, x, split("a c g8 g8 g8 g8"), 11)
	wants(t, x, split("a c g9 g9 g9 g9"), 12)
}

// full is a tree of MaxIDs templates, all of one leaf of 64 tokens, each with one Any more.
func full(t *testing.T) *tree.Tree {
	t.Helper()
	x := tree.New()
	line := slices.Repeat(words("a"), 64)
	wants(t, x, line, 1)
	for n := 2; n < 64; n++ {
		line[n] = tok(api.TokWord, "b")
		wants(t, x, line, n, slices.Repeat([]string{"b"}, n-1)...)
	}
	return x
}

// P15.1: at MaxIDs templates a new leaf, a new group, a Merge that is not the template overflow.
func TestMostTemplates(t *testing.T) {
	x := full(t)
	if x.Len() != api.MaxIDs || x.Leaves() != 1 {
		t.Fatal(x.Len(), x.Leaves())
	}
	// All but the first two are Any by now.
	line := slices.Repeat(words("a"), 64)
	wants(t, x, line, 63, slices.Repeat([]string{"a"}, 62)...)
	for _, tokens := range [][]api.Token{words("a"), words("a", "a"), words("b"), line[:63], append(words("b"), line[1:]...)} {
		wantsOverflow(t, x, tokens)
	}
	// The last number is a Merge's: another Merge overflows.
	x = tree.New()
	wants(t, x, words("k", "l", "m"), 1)
	line = slices.Repeat(words("a"), 64)
	for n := 2; n < 63; n++ {
		line[n] = tok(api.TokWord, "b")
		x.Assign(line...)
	}
	if x.Len() != 63 || x.Leaves() != 2 {
		t.Fatal(x.Len(), x.Leaves())
	}
	line[63] = tok(api.TokWord, "b")
	other := x.Copy()
	wants(t, x, words("k", "l", "n"), 63, "n")
	wantsOverflow(t, x, line)
	wantsOverflow(t, x, words("x"))
	wants(t, x, words("k", "l", "x"), 63, "x")
	line[63] = tok(api.TokWord, "a")
	if got := x.Assign(line...); got.ID != 62 || x.Len() != 64 {
		t.Error(got.ID, x.Len())
	}
	// The last number is a new leaf's: a Merge overflows.
	wants(t, other, words("p"), 63)
	wantsOverflow(t, other, words("k", "l", "n"))
	wantsOverflow(t, other, words("q"))
	wants(t, other, words("p"), 63)
	wants(t, other, words("k", "l", "m"), 1)
}

// P15.1: a new group at MaxIDs templates overflows, though its leaf has few groups; at one less it does not.
func TestNewGroupAtMostTemplates(t *testing.T) {
	x := tree.New()
	wants(t, x, split("a b c c c c"), 1)
	line := slices.Repeat(words("a"), 64)
	for n := 1; n < 62; n++ {
		line[n+1] = tok(api.TokWord, "b")
		x.Assign(line...)
	}
	if x.Len() != 63 || x.Leaves() != 2 {
		t.Fatal(x.Len(), x.Leaves())
	}
	wants(t, x, split("a b d d d d"), 63)
	wantsOverflow(t, x, split("a b e e e e"))
	wants(t, x, split("a b d d d d"), 63)
	wantsOverflow(t, x, split("a b d d d x"))
}

// P15.1, P15.3: by chance, against a tree in plain words; templates stay, and Render is the tokens.
func TestByChance(t *testing.T) {
	r := rand.New(rand.NewSource(151))
	for range 150 {
		x, p := tree.New(), newPlain()
		var seen []string
		for range 250 {
			tokens := anyTokens(r)
			got, want := x.Assign(tokens...), p.assign(tokens)
			if got.ID != want.ID || !slices.Equal(got.Vars, want.Vars) {
				t.Errorf("Assign(%v) = %d %q, want %d %q", tokens, got.ID, got.Vars, want.ID, want.Vars)
			}
			made, ok := x.Template(got.ID)
			if s, e := part.Render(made, got.Vars...); !ok || e != api.OK || s != lexer.Join(tokens...) {
				t.Errorf("Render of %v is %q, error %d", tokens, s, e)
			}
			for id, was := range seen {
				if now, ok := x.Template(id); !ok || tellTemplate(now) != was {
					t.Errorf("template %d was %s, is %s", id, was, tellTemplate(now))
				}
			}
			for id := len(seen); id < x.Len(); id++ {
				made, _ := x.Template(id)
				seen = append(seen, tellTemplate(made))
			}
		}
		wantsPlain(t, "by chance", x, p)
	}
}

// P15.3: lines of a lexer, up to all that may be and on.
func TestLines(t *testing.T) {
	r := rand.New(rand.NewSource(152))
	l := lexer.New()
	pieces := []string{"up", "down", " ", " ", "=", "3", "4.5", "1.2.3.4", "\"a b\"", "user", "\xff", "0xff", "2026-11-19T23:31:00"}
	for range 20 {
		x, p := tree.New(), newPlain()
		for range 300 {
			line := ""
			for range r.Intn(9) {
				line += pieces[r.Intn(len(pieces))]
			}
			tokens := lex(t, l, line)
			got, want := x.Assign(tokens...), p.assign(tokens)
			made, _ := x.Template(got.ID)
			if s, e := part.Render(made, got.Vars...); e != api.OK || s != line || got.ID != want.ID || !slices.Equal(got.Vars, want.Vars) {
				t.Errorf("Assign(%q) = %d %q, want %d %q", line, got.ID, got.Vars, want.ID, want.Vars)
			}
		}
		if x.Len() > api.MaxIDs || x.Leaves() > api.MaxLeaves {
			t.Error(x.Len(), x.Leaves())
		}
		wantsPlain(t, "lines", x, p)
	}
}

// P15.3: a nil Tree: Assign overflows, all else nothing.
func TestNil(t *testing.T) {
	var x *tree.Tree
	for _, tokens := range [][]api.Token{nil, words("a"), words("up", " ", "#3"), slices.Repeat(words("a"), 65)} {
		wants(t, x, tokens, 0, lexer.Join(tokens...))
	}
	if x.Len() != 0 || x.Leaves() != 0 || len(x.Encode()) != 0 || x.Copy() != nil {
		t.Error(tell(x))
	}
	for _, id := range []int{-1, 0, 1} {
		if got, ok := x.Template(id); ok || len(got) != 0 {
			t.Error(id, tellTemplate(got))
		}
	}
}

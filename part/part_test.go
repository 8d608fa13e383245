package part_test

import (
	"fmt"
	"math"
	"math/rand"
	"slices"
	"strings"
	"testing"

	"winnower/api"
	"winnower/part"
)

// P14.1: the example.
func TestExample(t *testing.T) {
	tokens := []api.Token{tok(api.TokWord, "up"), tok(api.TokBlank, " "), tok(api.TokNumber, "3")}
	wants(t, "up 3", part.Of(tokens...), template("up", " ", "*"))
}

// P14.1: of no token, of each kind; Any has no text.
func TestOf(t *testing.T) {
	wants(t, "none", part.Of(), nil)
	wants(t, "an empty list", part.Of([]api.Token{}...), nil)
	for kind, wild := range []bool{true, true, true, true, true, true, false, false, false} {
		want := template("x")
		if wild {
			want = template("*")
		}
		wants(t, kind, part.Of(tok(kind, "x")), want)
		wants(t, kind, part.Of(tok(api.TokWord, "a"), tok(kind, "x"), tok(kind, "x"), tok(api.TokOther, "=")), slices.Concat(template("a"), want, want, template("=")))
	}
	// What is none of the six is its text.
	for _, kind := range []int{-1, api.Kinds, 10, math.MaxInt, math.MinInt} {
		wants(t, kind, part.Of(tok(kind, "x")), template("x"))
	}
	wants(t, "texts", part.Of(tok(api.TokWord, ""), tok(api.TokOther, "\xff"), tok(api.TokBlank, " \t"), tok(api.TokNumber, "")), template("", "\xff", " \t", "*"))
	wants(t, "many", part.Of(slices.Repeat(words("a", "b"), 500)...), slices.Repeat(template("a", "b"), 500))
}

// P14.1: -1, if tokens are not as many as parts; else how many are Any, or the token's text. Fits: all of them.
func TestAlikeAndFits(t *testing.T) {
	for _, at := range []struct {
		what   string
		t      api.Template
		tokens []api.Token
		want   int
	}{
		{"none", nil, nil, 0},
		{"no part", nil, words("a"), -1},
		{"no token", template("a"), nil, -1},
		{"no token, any", template("*"), nil, -1},
		{"one", template("a"), words("a"), 1},
		{"one, another", template("a"), words("b"), 0},
		{"one, any", template("*"), words("a"), 1},
		{"one, any that has a text", api.Template{odd("b")}, words("a"), 1},
		{"fewer", template("a", "b", "c"), words("a", "b"), -1},
		{"more", template("a", "b"), words("a", "b", "c"), -1},
		{"many fewer", template("a", "*", "*", "*"), words("a"), -1},
		{"all", template("a", "b", "c"), words("a", "b", "c"), 3},
		{"all any", template("*", "*", "*"), words("a", "b", "c"), 3},
		{"some any", template("*", "b", "*"), words("a", "b", "c"), 3},
		{"none alike", template("a", "b", "c"), words("b", "c", "a"), 0},
		{"the first", template("a", "b", "c"), words("a", "x", "x"), 1},
		{"the last", template("a", "b", "c"), words("x", "x", "c"), 1},
		{"all but one", template("a", "b", "c"), words("a", "x", "c"), 2},
		{"any and one that is not", template("*", "b"), words("a", "x"), 1},
		{"empty texts", template("", "a"), words("", ""), 1},
		{"case", template("Up"), words("up"), 0},
		{"a part of a text", template("up"), words("u"), 0},
		{"more than a text", template("up"), words("up "), 0},
	} {
		if got := part.Alike(at.t, at.tokens...); got != at.want {
			t.Errorf("%s: Alike %d, want %d", at.what, got, at.want)
		}
		if got, want := part.Fits(at.t, at.tokens...), at.want == len(at.t); got != want {
			t.Errorf("%s: Fits %v", at.what, got)
		}
	}
	// Kinds are not asked.
	if got := part.Alike(template("7", "a"), tok(api.TokNumber, "7"), tok(-5, "a")); got != 2 || !part.Fits(template("7"), tok(api.TokIP, "7")) {
		t.Error(got)
	}
}

// P14.1: Any, without a text, where a part is Any, or not its token's text; what t has more stays.
func TestMerge(t *testing.T) {
	for _, at := range []struct {
		what   string
		t      api.Template
		tokens []api.Token
		want   api.Template
	}{
		{"none", nil, nil, nil},
		{"no part", nil, words("a"), nil},
		{"no token", template("a", "*", "b"), nil, template("a", "*", "b")},
		{"none differs", template("a", "b", "c"), words("a", "b", "c"), template("a", "b", "c")},
		{"one differs", template("a", "b", "c"), words("a", "x", "c"), template("a", "*", "c")},
		{"the first differs", template("a", "b"), words("x", "b"), template("*", "b")},
		{"the last differs", template("a", "b"), words("a", "x"), template("a", "*")},
		{"all differ", template("a", "b", "c"), words("c", "a", "b"), template("*", "*", "*")},
		{"any already", template("*", "b", "*"), words("a", "b", "c"), template("*", "b", "*")},
		{"any already, and one differs", template("*", "b", "c"), words("a", "b", "x"), template("*", "b", "*")},
		{"any already, and a token without a text", template("*", "b"), words("", ""), template("*", "*")},
		{"fewer", template("a", "b", "c", "*"), words("a", "x"), template("a", "*", "c", "*")},
		{"fewer, none differs", template("a", "b", "c"), words("a"), template("a", "b", "c")},
		{"more", template("a", "b"), words("a", "x", "c", "d"), template("a", "*")},
		{"more, none differs", template("a", "b"), words("a", "b", "c"), template("a", "b")},
		{"empty texts", template("", ""), words("", "a"), template("", "*")},
		{"case", template("Up"), words("up"), template("*")},
		// An Any that has a text has none behind it, wherever it stands.
		{"an Any with a text", api.Template{odd("a"), {Text: "b"}}, words("x", "b"), template("*", "b")},
		{"an Any with the token's text", api.Template{odd("a"), {Text: "b"}}, words("a", "b"), template("*", "b")},
		{"an Any with a text, more than tokens", api.Template{{Text: "a"}, odd("b"), {Text: "c"}}, words("a"), template("a", "*", "c")},
		{"an Any with a text, no token", api.Template{odd("b")}, nil, template("*")},
	} {
		wants(t, at.what, part.Merge(at.t, at.tokens...), at.want)
	}
	// Kinds are not asked: a number that is the part's text stays.
	wants(t, "kinds", part.Merge(template("7", "8"), tok(api.TokNumber, "7"), tok(api.TokIP, "9")), template("7", "*"))
}

// P14.1: Wild and Same.
func TestWild(t *testing.T) {
	for _, at := range []struct {
		t    api.Template
		want int
	}{
		{nil, 0}, {api.Template{}, 0}, {template("a"), 0}, {template("a", "b", ""), 0}, {template("*"), 1}, {template("a", "*"), 1}, {template("*", "a", "*", "b"), 2}, {template("*", "*", "*"), 3}, {api.Template{odd("x"), {Text: "*"}}, 1}, {slices.Repeat(template("*", "a"), 500), 500},
	} {
		if got := part.Wild(at.t); got != at.want {
			t.Errorf("Wild(%s) = %d", tell(at.t), got)
		}
	}
}

// P14.1: part by part.
func TestSame(t *testing.T) {
	list := []api.Template{
		nil, template("a"), template("b"), template(""), template("*"), {{Text: "*"}}, {odd("a")}, {odd("b")}, template("a", "b"), template("b", "a"), template("a", "*"), template("*", "a"), template("*", "*"), {{Any: true}, odd("a")}, template("a", "b", "c"), template("a", "b", "*"), template("a", "b", ""), template("a", "b", "c", "d"), template("A"), template("a "),
	}
	for i, a := range list {
		for k, b := range list {
			if got := part.Same(a, slices.Clone(b)); got != (i == k) {
				t.Errorf("Same(%s, %s) = %v", tell(a), tell(b), got)
			}
		}
	}
	if !part.Same(nil, api.Template{}) || !part.Same(api.Template{}, nil) {
		t.Error("nil and empty")
	}
}

// P14.2: the texts of tokens at Any.
func TestVars(t *testing.T) {
	for _, at := range []struct {
		what   string
		t      api.Template
		tokens []api.Token
		want   []string
	}{
		{"none", nil, nil, nil},
		{"no part", nil, words("a"), nil},
		{"no token", template("*", "*"), nil, nil},
		{"no Any", template("a", "b"), words("a", "b"), nil},
		{"no Any, and others", template("a", "b"), words("x", "y"), nil},
		{"one", template("a", "*", "c"), words("a", "b", "c"), []string{"b"}},
		{"all", template("*", "*", "*"), words("a", "b", "c"), []string{"a", "b", "c"}},
		{"in order", template("*", "b", "*"), words("z", "b", "a"), []string{"z", "a"}},
		{"of one that does not fit", template("*", "b", "*"), words("x", "y", "z"), []string{"x", "z"}},
		{"fewer", template("*", "b", "*"), words("x", "y"), []string{"x"}},
		{"fewer, up to an Any", template("a", "*", "*", "*"), words("a", "x"), []string{"x"}},
		{"more", template("a", "*"), words("a", "b", "c", "d"), []string{"b"}},
		{"alike texts", template("*", "*"), words("x", "x"), []string{"x", "x"}},
		{"without a text", template("*", "*"), words("", "x"), []string{"", "x"}},
		{"an Any that has a text", api.Template{odd("b")}, words("a"), []string{"a"}},
	} {
		if got := part.Vars(at.t, at.tokens...); !slices.Equal(got, at.want) {
			t.Errorf("%s: %q, want %q", at.what, got, at.want)
		}
	}
}

// P14.2: just as many vars as Wild; else ErrArg.
func TestRender(t *testing.T) {
	for _, at := range []struct {
		t    api.Template
		vars []string
		want string
	}{
		{nil, nil, ""},
		{template("a"), nil, "a"},
		{template("a", " ", "b", ""), nil, "a b"},
		{template("*"), []string{"x"}, "x"},
		{template("*"), []string{""}, ""},
		{template("up", " ", "*"), []string{"3"}, "up 3"},
		{template("*", "=", "*"), []string{"a", "b"}, "a=b"},
		{template("*", "*", "*"), []string{"c", "a", "b"}, "cab"},
		{template("x", "*", "y", "*", "z"), []string{"*", "\xff\x00"}, "x*y\xff\x00z"},
		{api.Template{odd("b"), {Text: "*"}}, []string{"a"}, "a*"},
		{slices.Repeat(template("a", "*"), 1000), slices.Repeat([]string{"b"}, 1000), strings.Repeat("ab", 1000)},
	} {
		if got, e := part.Render(at.t, at.vars...); e != api.OK || got != at.want {
			t.Errorf("Render(%s, %q) = %q, error %d", tell(at.t), at.vars, got, e)
		}
		for n := range len(at.vars) + 3 {
			if n == len(at.vars) {
				continue
			}
			vars := slices.Repeat([]string{"v"}, n)
			if got, e := part.Render(at.t, vars...); e != api.ErrArg || got != "" {
				t.Errorf("Render(%s) with %d: %q, error %d", tell(at.t), n, got, e)
			}
		}
	}
}

// P14.3: where t Fits, Render of Vars is the tokens' texts; Of of tokens Fits them.
func TestThereAndBack(t *testing.T) {
	r := rand.New(rand.NewSource(141))
	for range 3000 {
		tokens := anyTokens(r, 6)
		of := part.Of(tokens...)
		for i, token := range tokens {
			want := api.Part{Any: varies(token.Kind)}
			if !want.Any {
				want.Text = token.Text
			}
			if of[i] != want {
				t.Errorf("Of %v: part %d is %v", tokens, i, of[i])
			}
		}
		for _, at := range []api.Template{of, anyTemplate(r, 6), part.Merge(anyTemplate(r, 6), tokens...)} {
			fitting := fits(at, tokens)
			if got := part.Fits(at, tokens...); got != fitting {
				t.Errorf("Fits(%s, %v) = %v", tell(at), tokens, got)
			}
			vars := part.Vars(at, tokens...)
			s, e := part.Render(at, vars...)
			if fitting && (s != joined(tokens) || e != api.OK) {
				t.Errorf("Render(%s, %q) = %q, error %d, of %v", tell(at), vars, s, e, tokens)
			}
			if len(at) <= len(tokens) && len(vars) != part.Wild(at) {
				t.Errorf("Vars(%s, %v) = %q", tell(at), tokens, vars)
			}
		}
		if !fits(of, tokens) || len(of) != len(tokens) {
			t.Errorf("Of %v is %s", tokens, tell(of))
		}
	}
}

// P14.3: Merge with as many tokens fits them, and all that t fitted; and nothing is Any that need not be.
func TestMergeFits(t *testing.T) {
	r := rand.New(rand.NewSource(142))
	for range 3000 {
		at, tokens := anyTemplate(r, 5), anyTokens(r, 5)
		merged := part.Merge(at, tokens...)
		if len(merged) != len(at) {
			t.Errorf("Merge(%s, %v) = %s", tell(at), tokens, tell(merged))
			continue
		}
		for i, p := range merged {
			wild := at[i].Any || i < len(tokens) && at[i].Text != tokens[i].Text
			if p.Any != wild || wild && p.Text != "" || !wild && p.Text != at[i].Text {
				t.Errorf("Merge(%s, %v) = %s", tell(at), tokens, tell(merged))
			}
		}
		if len(tokens) != len(at) {
			continue
		}
		if !part.Fits(merged, tokens...) {
			t.Errorf("Merge(%s, %v) = %s does not fit them", tell(at), tokens, tell(merged))
		}
		for range 20 {
			if other := anyTokens(r, 5); fits(at, other) && !part.Fits(merged, other...) {
				t.Errorf("Merge(%s, %v) = %s does not fit %v", tell(at), tokens, tell(merged), other)
			}
		}
		if again := part.Merge(merged, tokens...); !part.Same(again, merged) {
			t.Errorf("Merge(%s, %v) again is %s", tell(merged), tokens, tell(again))
		}
	}
}

// P14.3, W6, W7: what is handed in is left as it is and not kept, what is answered is new memory, spare room too.
func TestMemory(t *testing.T) {
	tokens := append(words("up", "a", "b"), tok(api.TokNumber, "7"), tok(api.TokWord, "spare"))
	at := append(template("up", "a", "*", "*"), api.Part{Text: "spare"})
	vars := []string{"x", "y", "spare"}
	told := fmt.Sprint(tokens, at, vars)
	of, merged, found := part.Of(tokens[:4]...), part.Merge(at[:4], tokens[:4]...), part.Vars(at[:4], tokens[:4]...)
	whole, grown := part.Merge(at[:4], tokens[:2]...), part.Merge(at[:4])
	rendered, e := part.Render(at[:4], vars[:2]...)
	part.Fits(at[:4], tokens[:4]...)
	part.Alike(at[:4], tokens[:4]...)
	part.Same(at[:4], at[:3])
	part.Wild(at[:4])
	if got := fmt.Sprint(tokens, at, vars); got != told || e != api.OK {
		t.Error("what was handed in became", got)
	}
	// Written over, an answer changes neither what was handed in nor another answer.
	for _, l := range []api.Template{of, merged, whole, grown} {
		others := fmt.Sprint(tokens, at, vars, found, rendered)
		clear(l[:cap(l)])
		_ = append(l, api.Part{Text: "!"})
		if got := fmt.Sprint(tokens, at, vars, found, rendered); got != others {
			t.Error("another became", got)
		}
	}
	clear(found[:cap(found)])
	_ = append(found, "!")
	if got := fmt.Sprint(tokens, at, vars); got != told {
		t.Error("what was handed in became", got)
	}
	wants(t, "Of again", part.Of(tokens[:4]...), template("up", "a", "b", "*"))
	wants(t, "Merge again", part.Merge(at[:4], tokens[:4]...), template("up", "a", "*", "*"))
	// Written over, what was handed in changes no answer.
	of, merged, found = part.Of(tokens...), part.Merge(at, tokens...), part.Vars(at, tokens...)
	clear(tokens)
	clear(at)
	clear(vars)
	wants(t, "Of", of, template("up", "a", "b", "*", "spare"))
	wants(t, "Merge", merged, template("up", "a", "*", "*", "spare"))
	if !slices.Equal(found, []string{"b", "7"}) || rendered != "upaxy" {
		t.Error("an answer became", found, rendered)
	}
}

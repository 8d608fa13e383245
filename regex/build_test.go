package regex_test

import (
	"fmt"
	"math/rand"
	"strings"
	"testing"

	"winnower/api"
	"winnower/class"
	"winnower/regex"
)

// P6.3
func TestText(t *testing.T) {
	wantsRe(t, "none", regex.Text(""), empty())
	for b := range 256 {
		wantsRe(t, b, regex.Text(string([]byte{byte(b)})), one(byte(b)))
	}
	for _, s := range []string{"ab", "aa", "a*b", "(|)", "\x00\xff", "ä", `\n`, "[a-b]", strings.Repeat("ab", 63)} {
		wantsRe(t, s, regex.Text(s), seq(ofBytes(s)...))
		wantsMay(t, s, regex.Text(s), true)
	}
	wantsMay(t, "127 bytes", regex.Text(strings.Repeat("a", 127)), true)
	wantsMay(t, "128 bytes", regex.Text(strings.Repeat("a", 128)), false)
	long := regex.Text(strings.Repeat("ab", 1<<16))
	if long.Kind != api.ReSeq || len(long.Kids) != 1<<17 || long.Kids[1<<17-1].Set != class.Of('b') {
		t.Error("a long one")
	}
	wantsNot(t, "a long one", long)
}

// P6.3: of none, of one, of many; nothing is drawn together.
func TestSeqAndAlt(t *testing.T) {
	for what, got := range map[string]api.Re{
		"Seq()":      regex.Seq(),
		"Seq(nil)":   regex.Seq(nil...),
		"Seq of [0]": regex.Seq([]api.Re{}...),
		"Alt()":      regex.Alt(),
		"Alt(nil)":   regex.Alt(nil...),
		"Alt of [0]": regex.Alt([]api.Re{}...),
	} {
		wantsRe(t, what, got, empty())
	}
	b := one('b')
	spoilt := api.Re{Kind: 9, Set: class.Of(3), Kids: []api.Re{a(), {Kind: -1}}, Low: -7, High: 99}
	for _, r := range []api.Re{empty(), a(), seq(a(), b), alt(a(), b), star(a()), rep(seq(a(), alt(b, a())), 2, 3), spoilt, seq(a())} {
		what := tell(r)
		wantsRe(t, what, regex.Seq(r), r)
		wantsRe(t, what, regex.Alt(r), r)
		wantsRe(t, what, regex.Seq(r, r), seq(r, r))
		wantsRe(t, what, regex.Alt(r, r), alt(r, r))
		wantsRe(t, what, regex.Seq(a(), r, b), seq(a(), r, b))
		wantsRe(t, what, regex.Alt(a(), r, b), alt(a(), r, b))
		wantsRe(t, what, regex.Seq(regex.Seq(r, b), empty()), seq(seq(r, b), empty()))
		wantsRe(t, what, regex.Alt(regex.Alt(r, b), empty()), alt(alt(r, b), empty()))
	}
	l := ofBytes(strings.Repeat("abc", 400))
	wantsRe(t, "1200 ones", regex.Seq(l...), seq(l...))
	wantsRe(t, "1200 ones", regex.Alt(l...), alt(l...))
	wantsRe(t, "put together", regex.Seq(regex.Text("ab"), regex.Alt(regex.Text("c"), regex.Text("")), star(regex.Text("d"))),
		seq(seq(a(), b), alt(one('c'), empty()), star(one('d'))))
}

// P6.2: Same is field by field.
func TestSame(t *testing.T) {
	b := one('b')
	list := []api.Re{
		empty(), a(), b, all(), {Set: class.Of('a')}, {Kind: api.ReClass}, {Kind: api.ReClass, Set: api.Set{3: 1 << 63}},
		{Kind: api.ReSeq}, {Kind: api.ReAlt}, {Kind: api.ReRepeat}, {Kind: -1}, {Kind: 7}, {Low: 1}, {High: 1}, {Low: 1, High: 1}, {Low: -1}, {High: -1},
		seq(a()), seq(a(), b), seq(b, a()), seq(a(), a()), seq(a(), b, a()), alt(a(), b), alt(b, a()), seq(a(), seq(b)), seq(seq(a()), b), seq(seq(a(), b)),
		star(a()), star(b), rep(a(), 1, -1), rep(a(), 0, 1), rep(a(), 1, 1), rep(seq(a(), b), 1, 1), {Kids: []api.Re{a()}}, {Kids: []api.Re{{}}}, {Kids: []api.Re{{}, {}}},
		seq(a(), alt(b, star(a()))), seq(a(), alt(b, star(b))), seq(a(), alt(b, rep(a(), 0, 2))), seq(a(), alt(b, star(a()), b)),
	}
	r := rand.New(rand.NewSource(63))
	for range 100 {
		re := anyRe(r, 4)
		list = append(list, re)
		again := regex.Seq(re)
		spoil(r, &again)
		list = append(list, again)
	}
	for _, x := range list {
		for _, y := range list {
			if got, want := regex.Same(x, y), plainSame(x, y); got != want {
				t.Errorf("Same of %s and %s: %v", tell(x), tell(y), got)
			}
		}
	}
}

// P6.2: no list and an empty one are the same, wherever they stand.
func TestSameOfEmptyKids(t *testing.T) {
	none, some := api.Re{}, api.Re{Kids: []api.Re{}}
	room := api.Re{Kids: make([]api.Re, 0, 5)}
	for _, x := range []api.Re{none, some, room} {
		for _, y := range []api.Re{none, some, room} {
			if !regex.Same(x, y) || !regex.Same(seq(a(), star(x)), seq(a(), star(y))) {
				t.Error("nil and empty")
			}
			if regex.Same(x, seq(y)) || regex.Same(seq(x), seq(y, y)) {
				t.Error("one and two")
			}
		}
	}
}

// P6.2, W1: Same of what is deep and wide.
func TestSameOfHuge(t *testing.T) {
	deepOne := func(leaf api.Re) api.Re {
		for range 1 << 15 {
			leaf = seq(a(), star(leaf))
		}
		return leaf
	}
	if x, y, z := deepOne(a()), deepOne(a()), deepOne(one('b')); !regex.Same(x, y) || regex.Same(x, z) {
		t.Error("deep ones")
	}
	x, y := regex.Text(strings.Repeat("a", 1<<17)), regex.Text(strings.Repeat("a", 1<<17))
	if !regex.Same(x, y) || regex.Same(x, regex.Text(strings.Repeat("a", 1<<17-1)+"b")) {
		t.Error("wide ones")
	}
	if got := regex.Alt(deepOne(a()), a()); !regex.Same(got.Kids[0], deepOne(a())) || len(got.Kids) != 2 {
		t.Error("Alt of a deep one")
	}
}

// smear writes over all that an expression holds, the room behind its lists too.
func smear(r *api.Re) {
	kids := r.Kids[:cap(r.Kids)]
	for i := range kids {
		smear(&kids[i])
	}
	*r = api.Re{Kind: 9, Set: api.Set{5, 6, 7, 8}, Low: 77, High: 78}
}

// roomy is an expression with room behind each of its lists, in which something stands.
func roomy(r api.Re) api.Re {
	kids := make([]api.Re, 0, len(r.Kids)+2)
	for _, kid := range r.Kids {
		kids = append(kids, roomy(kid))
	}
	_ = append(kids, one('!'), star(one('?')))
	r.Kids = kids
	return r
}

// tellRoom is an expression in words, with what stands in the room behind its lists.
func tellRoom(r api.Re) string {
	s := tell(r)
	for _, kid := range r.Kids[:cap(r.Kids)] {
		s += " " + tellRoom(kid)
	}
	return s
}

// P6.4: what is handed in is neither changed nor kept.
func TestHandedInIsLeft(t *testing.T) {
	r := rand.New(rand.NewSource(65))
	for range 300 {
		re := anyRe(r, 5)
		l := []api.Re{roomy(re), roomy(a()), roomy(re), roomy(star(re)), a()}
		handed := l[:3]
		before := tellRoom(api.Re{Kids: l})
		sequel, either, alone := regex.Seq(handed...), regex.Alt(handed...), regex.Seq(handed[:1]...)
		same, is, text := regex.Same(l[0], l[2]), regex.Is(l[0]), regex.Print(l[0])
		if tellRoom(api.Re{Kids: l}) != before {
			t.Fatalf("%s became %s", before, tellRoom(api.Re{Kids: l}))
		}
		for i := range l {
			smear(&l[i])
		}
		wantsRe(t, "Seq", sequel, seq(re, a(), re))
		wantsRe(t, "Alt", either, alt(re, a(), re))
		wantsRe(t, "Seq of one", alone, re)
		if !same || is != plainMay(re) || is && text != plainPrint(re) {
			t.Errorf("Same %v, Is %v, Print %q", same, is, text)
		}
	}
}

// P6.4: what is answered is new memory; no two lists of one answer are one, the room behind them too.
func TestAnswersAreNew(t *testing.T) {
	text := "x(a|b(cd)*|)y(a|b)z[a-c]{2,3}((()))(a|b|c|d|e)(abcde)"
	for what, answer := range map[string]func() api.Re{
		"Parse": func() api.Re { r, _, _ := regex.Parse(text); return r },
		"Text":  func() api.Re { return regex.Text("hello") },
		"Seq":   func() api.Re { r, _, _ := regex.Parse(text); return regex.Seq(r, r, r) },
		"Alt":   func() api.Re { r, _, _ := regex.Parse(text); return regex.Alt(r, seq(r, r), r) },
	} {
		first, second := answer(), answer()
		want := tell(second)
		if tell(first) != want {
			t.Error(what, "is not the same again")
		}
		apart(t, what, &second)
		smear(&first)
		if tell(second) != want || tell(answer()) != want {
			t.Errorf("%s: another answer became %s", what, tell(second))
		}
	}
	shared := star(a())
	got := regex.Seq(shared, shared)
	smear(&got.Kids[0])
	wantsRe(t, "the other Kid", got.Kids[1], star(a()))
	wantsRe(t, "what was handed in", shared, star(a()))
}

// apart writes in each place of each list of an expression in turn, and sees that no other one changes.
func apart(t *testing.T, what string, r *api.Re) {
	t.Helper()
	var places []*api.Re
	var gather func(r *api.Re)
	gather = func(r *api.Re) {
		kids := r.Kids[:cap(r.Kids)]
		for i := range kids {
			places = append(places, &kids[i])
			gather(&kids[i])
		}
	}
	gather(r)
	seen := map[*api.Re]int{}
	for _, p := range places {
		seen[p]++
	}
	if len(seen) != len(places) {
		t.Errorf("%s: %d places, of which %d are others", what, len(places), len(seen))
	}
}

// W2, W7: what is answered hangs on the arguments alone, and stays.
func TestSameAgain(t *testing.T) {
	texts := []string{"a(b|)[0-9]{2,}", "a**", "", "(((((a*)*)*)*)*)", strings.Repeat("a", 1025), "[b-a]", "x|y"}
	told := func(s string) string {
		r, at, e := regex.Parse(s)
		return fmt.Sprint(tell(r), regex.Print(r), at, e)
	}
	var first []string
	for _, s := range texts {
		first = append(first, told(s))
	}
	for range 3 {
		for i := len(texts) - 1; i >= 0; i-- {
			if got := told(texts[i]); got != first[i] {
				t.Errorf("%q: %s, then %s", texts[i], first[i], got)
			}
		}
	}
}

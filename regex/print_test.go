package regex_test

import (
	"math/rand"
	"testing"

	"winnower/api"
	"winnower/class"
	"winnower/regex"
)

func wantsPrint(t *testing.T, r api.Re, want string) {
	t.Helper()
	if got := regex.Print(r); got != want {
		t.Errorf("Print %s: %q, want %q", tell(r), got, want)
	}
	wantsParse(t, want, r)
	if !regex.Is(r) {
		t.Errorf("Is %s", tell(r))
	}
}

// P6.2: sets.
func TestPrintSets(t *testing.T) {
	for _, at := range []struct {
		set  api.Set
		want string
	}{
		{class.Of('a'), "a"},
		{class.Of('z'), "z"},
		{class.Of('A'), "A"},
		{class.Of('Z'), "Z"},
		{class.Of('0'), "0"},
		{class.Of('9'), "9"},
		{class.Of('/'), `\x2f`},
		{class.Of(':'), `\x3a`},
		{class.Of('@'), `\x40`},
		{class.Of('['), `\x5b`},
		{class.Of('`'), `\x60`},
		{class.Of('{'), `\x7b`},
		{class.Of('_'), `\x5f`},
		{class.Of(' '), `\x20`},
		{class.Of('\n'), `\x0a`},
		{class.Of('.'), `\x2e`},
		{class.Of(0), `\x00`},
		{class.Of(0xaf), `\xaf`},
		{class.Of(0xe9), `\xe9`},
		{class.Of(255), `\xff`},
		{class.Range(0, 255), "."},
		{class.Of('a', 'b'), "[a-b]"},
		{class.Of('a', 'c'), "[ac]"},
		{class.Range('a', 'c'), "[a-c]"},
		{class.Of('a', 'b', 'd'), "[a-bd]"},
		{class.Of('a', 'c', 'd'), "[ac-d]"},
		{class.Join(class.Range('0', '9'), class.Range('A', 'Z'), class.Of('_'), class.Range('a', 'z')), `[0-9A-Z\x5fa-z]`},
		{class.Of('-', '^', ']'), `[\x2d\x5d-\x5e]`},
		{class.Not(class.Of('a')), "[\\x00-\\x60b-\\xff]"},
		{class.Not(class.Of(0)), `[\x01-\xff]`},
		{class.Not(class.Of(255)), `[\x00-\xfe]`},
		{class.Of(0, 255), `[\x00\xff]`},
		{class.Of(63, 64), `[\x3f-\x40]`},
		{class.Of(' ', '\t'), `[\x09\x20]`},
	} {
		wantsPrint(t, of(at.set), at.want)
		wantsPrint(t, star(of(at.set)), at.want+"*")
		wantsPrint(t, seq(of(at.set), of(at.set)), at.want+at.want)
		wantsPrint(t, alt(of(at.set), of(at.set)), at.want+"|"+at.want)
	}
	for b := range 256 {
		wantsPrint(t, one(byte(b)), plainByte(b))
	}
}

// P6.2: the first sign that says it.
func TestPrintTimes(t *testing.T) {
	for _, at := range []struct {
		low, high int
		want      string
	}{
		{0, -1, "*"}, {1, -1, "+"}, {0, 1, "?"},
		{1, 1, "{1}"}, {2, 2, "{2}"}, {10, 10, "{10}"}, {32, 32, "{32}"},
		{2, -1, "{2,}"}, {9, -1, "{9,}"}, {32, -1, "{32,}"},
		{0, 2, "{0,2}"}, {0, 32, "{0,32}"}, {1, 2, "{1,2}"}, {2, 3, "{2,3}"}, {9, 10, "{9,10}"}, {31, 32, "{31,32}"},
	} {
		wantsPrint(t, rep(a(), at.low, at.high), "a"+at.want)
		wantsPrint(t, rep(of(class.Of('a', 'c')), at.low, at.high), "[ac]"+at.want)
		wantsPrint(t, rep(all(), at.low, at.high), "."+at.want)
		wantsPrint(t, rep(empty(), at.low, at.high), "()"+at.want)
		wantsPrint(t, rep(star(a()), at.low, at.high), "(a*)"+at.want)
		wantsPrint(t, rep(seq(a(), a()), at.low, at.high), "(aa)"+at.want)
		wantsPrint(t, rep(alt(a(), empty()), at.low, at.high), "(a|)"+at.want)
	}
}

// P6.2: each kind within each kind, first, amid and last.
func TestPrintKindInKind(t *testing.T) {
	for _, kid := range []struct {
		r                   api.Re
		inSeq, inAlt, inRep string
	}{
		{empty(), "()", "", "()"},
		{one('x'), "x", "x", "x"},
		{one('*'), `\x2a`, `\x2a`, `\x2a`},
		{of(class.Range('x', 'z')), "[x-z]", "[x-z]", "[x-z]"},
		{all(), ".", ".", "."},
		{seq(ofBytes("xy")...), "(xy)", "xy", "(xy)"},
		{alt(ofBytes("xy")...), "(x|y)", "(x|y)", "(x|y)"},
		{star(one('x')), "x*", "x*", "(x*)"},
		{rep(one('x'), 2, 3), "x{2,3}", "x{2,3}", "(x{2,3})"},
		{seq(empty(), empty()), "(()())", "()()", "(()())"},
		{alt(empty(), empty()), "(|)", "(|)", "(|)"},
	} {
		b := one('b')
		wantsPrint(t, seq(kid.r, a()), kid.inSeq+"a")
		wantsPrint(t, seq(a(), kid.r), "a"+kid.inSeq)
		wantsPrint(t, seq(a(), kid.r, b), "a"+kid.inSeq+"b")
		wantsPrint(t, seq(kid.r, kid.r), kid.inSeq+kid.inSeq)
		wantsPrint(t, alt(kid.r, a()), kid.inAlt+"|a")
		wantsPrint(t, alt(a(), kid.r), "a|"+kid.inAlt)
		wantsPrint(t, alt(a(), kid.r, b), "a|"+kid.inAlt+"|b")
		wantsPrint(t, alt(kid.r, kid.r), kid.inAlt+"|"+kid.inAlt)
		wantsPrint(t, star(kid.r), kid.inRep+"*")
		wantsPrint(t, rep(kid.r, 2, 3), kid.inRep+"{2,3}")
		wantsPrint(t, seq(a(), alt(kid.r, seq(kid.r, b)), star(kid.r)), "a("+kid.inAlt+"|"+kid.inSeq+"b)"+kid.inRep+"*")
	}
	wantsPrint(t, empty(), "")
}

// P6.4: one that may be, printed and parsed, is it; a text parsed, printed and parsed again is it.
func TestThereAndBack(t *testing.T) {
	r := rand.New(rand.NewSource(64))
	for range 20000 {
		re := anyRe(r, 1+r.Intn(6))
		if !plainMay(re) {
			continue
		}
		text := regex.Print(re)
		if text != plainPrint(re) {
			t.Fatalf("Print %s: %q, want %q", tell(re), text, plainPrint(re))
		}
		back, at, e := regex.Parse(text)
		if e != api.OK || at != 0 || !plainSame(back, re) || !regex.Same(back, re) {
			t.Fatalf("Parse(%q): error %d at %d, %s, want %s", text, e, at, tell(back), tell(re))
		}
		if again := regex.Print(back); again != text {
			t.Fatalf("Print %q, again %q", text, again)
		}
	}
	for _, s := range []string{
		"", "()", "((a))", "a||b", "(|a)", `\x41\n\-`, "[b-da-c]", "[^a]", `[^\x00-\x60b-\xff]`, "(a){0,}", "a{1,}", "a{0,1}", "a{1,1}", "a{02,07}", "((a|b)|c)",
		`[0-9]{4}\x2d[0-9]{2}\x2d[0-9]{2}T[0-9]{2}:[0-9]{2}:[0-9]{2}`, `[0-9]{1,3}(\.[0-9]{1,3}){3}`, `[0-9a-f]{2}(:[0-9a-f]{2}){5}`,
		`0x[0-9a-fA-F]+`, `\-?[0-9]+(\.[0-9]+)?`, `"([^"\\]|\\.)*"`, `[A-Za-z_][A-Za-z0-9_]*`, `[ \t]+`, ".",
	} {
		first, _, e := regex.Parse(s)
		second, _, f := regex.Parse(regex.Print(first))
		if e != api.OK || f != api.OK || !plainSame(first, second) || regex.Print(first) != regex.Print(second) {
			t.Errorf("%q: %d, %d; %q, %q", s, e, f, regex.Print(first), regex.Print(second))
		}
	}
}

// P6.2: what has no text is told apart from Empty by Is alone.
func TestPrintNothing(t *testing.T) {
	if regex.Print(empty()) != "" || !regex.Is(empty()) || regex.Print(seq(a())) != "" || regex.Is(seq(a())) {
		t.Error("Empty, and a Seq of one")
	}
	if got := regex.Print(seq(many(200, a)...)); got != "" {
		t.Errorf("%q", got)
	}
}

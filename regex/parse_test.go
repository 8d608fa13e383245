package regex_test

import (
	"fmt"
	"math/rand"
	"strings"
	"testing"

	"winnower/api"
	"winnower/class"
	"winnower/regex"
)

// P6.1: the example.
func TestExample(t *testing.T) {
	want := seq(a(), alt(one('b'), empty()), rep(of(class.Range('0', '9')), 2, -1))
	wantsParse(t, "a(b|)[0-9]{2,}", want)
	if got := regex.Print(want); got != "a(b|)[0-9]{2,}" {
		t.Errorf("%q", got)
	}
}

// P6.1: rows, alternatives, groups; a group is just what stands in it.
func TestParseRowsAndAlternatives(t *testing.T) {
	b, c := one('b'), one('c')
	for _, at := range []struct {
		s    string
		want api.Re
	}{
		{"", empty()},
		{"()", empty()},
		{"(())", empty()},
		{"a", a()},
		{"(a)", a()},
		{"((((a))))", a()},
		{"ab", seq(a(), b)},
		{"(ab)", seq(a(), b)},
		{"abc", seq(a(), b, c)},
		{"(ab)c", seq(seq(a(), b), c)},
		{"a(bc)", seq(a(), seq(b, c))},
		{"((a)(b))c", seq(seq(a(), b), c)},
		{"a()", seq(a(), empty())},
		{"()a", seq(empty(), a())},
		{"()()", seq(empty(), empty())},
		{"|", alt(empty(), empty())},
		{"||", alt(empty(), empty(), empty())},
		{"a|b", alt(a(), b)},
		{"a||b", alt(a(), empty(), b)},
		{"|a", alt(empty(), a())},
		{"a|", alt(a(), empty())},
		{"(|a)", alt(empty(), a())},
		{"(a|)", alt(a(), empty())},
		{"()|a", alt(empty(), a())},
		{"a|b|c", alt(a(), b, c)},
		{"(a|b)|c", alt(alt(a(), b), c)},
		{"a|(b|c)", alt(a(), alt(b, c))},
		{"ab|c", alt(seq(a(), b), c)},
		{"a|bc", alt(a(), seq(b, c))},
		{"a(b|c)", seq(a(), alt(b, c))},
		{"(a|b)c", seq(alt(a(), b), c)},
		{"(a|b)(|c)", seq(alt(a(), b), alt(empty(), c))},
	} {
		wantsParse(t, at.s, at.want)
	}
}

// signs is each sign of times, and what it says.
var signs = []struct {
	text      string
	low, high int
}{
	{"*", 0, -1}, {"+", 1, -1}, {"?", 0, 1},
	{"{1}", 1, 1}, {"{2}", 2, 2}, {"{9}", 9, 9}, {"{10}", 10, 10}, {"{32}", 32, 32}, {"{01}", 1, 1}, {"{07}", 7, 7},
	{"{0,}", 0, -1}, {"{00,}", 0, -1}, {"{1,}", 1, -1}, {"{2,}", 2, -1}, {"{31,}", 31, -1}, {"{32,}", 32, -1}, {"{05,}", 5, -1},
	{"{0,1}", 0, 1}, {"{0,2}", 0, 2}, {"{00,01}", 0, 1}, {"{1,1}", 1, 1}, {"{1,2}", 1, 2}, {"{3,3}", 3, 3}, {"{2,10}", 2, 10},
	{"{0,32}", 0, 32}, {"{1,32}", 1, 32}, {"{32,32}", 32, 32}, {"{10,12}", 10, 12}, {"{9,10}", 9, 10}, {"{09,9}", 9, 9},
}

// P6.1: each sign behind an atom, a group, a set; of a row it takes the last one alone.
func TestParseSigns(t *testing.T) {
	b, set := one('b'), of(class.Range('a', 'c'))
	for _, sign := range signs {
		times := func(r api.Re) api.Re { return rep(r, sign.low, sign.high) }
		wantsParse(t, "a"+sign.text, times(a()))
		wantsParse(t, `\x61`+sign.text, times(a()))
		wantsParse(t, `\*`+sign.text, times(one('*')))
		wantsParse(t, "."+sign.text, times(all()))
		wantsParse(t, "[a-c]"+sign.text, times(set))
		wantsParse(t, "[^a]"+sign.text, times(of(class.Not(class.Of('a')))))
		wantsParse(t, "()"+sign.text, times(empty()))
		wantsParse(t, "(a)"+sign.text, times(a()))
		wantsParse(t, "(ab)"+sign.text, times(seq(a(), b)))
		wantsParse(t, "(a|b)"+sign.text, times(alt(a(), b)))
		wantsParse(t, "(a*)"+sign.text, times(star(a())))
		wantsParse(t, "(a"+sign.text+")*", star(times(a())))
		wantsParse(t, "(a"+sign.text+")", times(a()))
		wantsParse(t, "ab"+sign.text, seq(a(), times(b)))
		wantsParse(t, "a"+sign.text+"b", seq(times(a()), b))
		wantsParse(t, "a|b"+sign.text, alt(a(), times(b)))
		wantsParse(t, "a"+sign.text+"|b", alt(times(a()), b))
		wantsParse(t, "a"+sign.text+"b"+sign.text, seq(times(a()), times(b)))
	}
}

// P6.1: all pairs of ends, with and without a nought ahead.
func TestParseAllNumbers(t *testing.T) {
	for low := range 100 {
		for _, form := range []string{"%d", "%02d"} {
			m := fmt.Sprintf(form, low)
			wantsTimes(t, "{"+m+"}", low, low, low >= 1 && low <= 32)
			wantsTimes(t, "{"+m+",}", low, -1, low <= 32)
			for high := range 100 {
				wantsTimes(t, "{"+m+","+fmt.Sprintf(form, high)+"}", low, high, low <= high && high >= 1 && high <= 32)
			}
		}
	}
}

func wantsTimes(t *testing.T, sign string, low, high int, may bool) {
	t.Helper()
	if may {
		wantsParse(t, "a"+sign, rep(a(), low, high))
	} else {
		wantsError(t, "a"+sign, api.ErrForm, len(sign))
	}
}

// plainSigns is the bytes that mean something else than themselves.
const plainSigns = `.|*+?()[]{}\^-`

// P6.1: any byte but the signs is itself, within a set too.
func TestParseEachByte(t *testing.T) {
	for b := range 256 {
		s := string([]byte{byte(b)})
		if strings.Contains(plainSigns, s) {
			continue
		}
		wantsParse(t, s, one(byte(b)))
		wantsParse(t, s+"a", seq(one(byte(b)), a()))
		wantsParse(t, "["+s+"]", one(byte(b)))
		wantsParse(t, "[^"+s+"]", of(class.Not(class.Of(byte(b)))))
		wantsParse(t, "["+s+"-"+s+"]", one(byte(b)))
		wantsParse(t, s+"*", star(one(byte(b))))
	}
}

// P6.1: each byte behind a stroke.
func TestParseEachStroke(t *testing.T) {
	meant := map[string]byte{"n": 0x0a, "t": 0x09, "r": 0x0d}
	for b := range 256 {
		s := string([]byte{byte(b)})
		want, ok := meant[s]
		if strings.Contains(plainSigns, s) {
			want, ok = byte(b), true
		}
		switch {
		case ok:
			wantsParse(t, `\`+s, one(want))
			wantsParse(t, `\`+s+"a", seq(one(want), a()))
			wantsParse(t, `[\`+s+`]`, one(want))
			wantsParse(t, `[\x00-\`+s+`]`, of(class.Range(0, want)))
			wantsParse(t, `[\`+s+`-\xff]`, of(class.Range(want, 255)))
		case s == "x":
			wantsError(t, `\x`, api.ErrForm, 2)
		default:
			wantsError(t, `\`+s, api.ErrForm, 1)
			wantsError(t, `a[b\`+s+`]`, api.ErrForm, 4)
			wantsError(t, `[b-\`+s+`]`, api.ErrForm, 4)
		}
	}
}

// P6.1: \x and two digits of sixteen; nothing else is a digit.
func TestParseSixteens(t *testing.T) {
	for b := range 256 {
		wantsParse(t, fmt.Sprintf(`\x%02x`, b), one(byte(b)))
		wantsParse(t, fmt.Sprintf(`\x%02x0`, b), seq(one(byte(b)), one('0')))
		wantsParse(t, fmt.Sprintf(`[\x%02x]`, b), one(byte(b)))
		s := string([]byte{byte(b)})
		if strings.Contains("0123456789abcdef", s) {
			continue
		}
		wantsError(t, `\x`+s, api.ErrForm, 2)
		wantsError(t, `\x`+s+`1`, api.ErrForm, 2)
		wantsError(t, `\x1`+s, api.ErrForm, 3)
		wantsError(t, `a\x1`+s+`*`, api.ErrForm, 4)
		wantsError(t, `[\x`+s, api.ErrForm, 3)
		wantsError(t, `[\xf`+s, api.ErrForm, 4)
	}
	wantsError(t, `\`, api.ErrForm, 1)
	wantsError(t, `\x`, api.ErrForm, 2)
	wantsError(t, `\x1`, api.ErrForm, 3)
	wantsError(t, `ab\xA0`, api.ErrForm, 4)
	wantsError(t, `ab\xaF`, api.ErrForm, 5)
}

// P6.1
func TestParseSets(t *testing.T) {
	for _, at := range []struct {
		s    string
		want api.Set
	}{
		{".", class.Range(0, 255)},
		{"[a]", class.Of('a')},
		{"[ab]", class.Of('a', 'b')},
		{"[ba]", class.Of('a', 'b')},
		{"[aa]", class.Of('a')},
		{"[a-a]", class.Of('a')},
		{"[a-c]", class.Range('a', 'c')},
		{"[a-cb-e]", class.Range('a', 'e')},
		{"[a-cx]", class.Of('a', 'b', 'c', 'x')},
		{"[xa-c]", class.Of('a', 'b', 'c', 'x')},
		{"[a-zA-Z0-9_]", class.Join(class.Range('a', 'z'), class.Range('A', 'Z'), class.Range('0', '9'), class.Of('_'))},
		{`[\x00-\xff]`, class.Range(0, 255)},
		{"[\x00-\xff]", class.Range(0, 255)},
		{`[\x7f-\x80]`, class.Of(127, 128)},
		{`[\n\t\r]`, class.Of('\n', '\t', '\r')},
		{`[\t-\r]`, class.Range(9, 13)},
		{`[\^]`, class.Of('^')},
		{`[\]]`, class.Of(']')},
		{`[\[-\]]`, class.Range('[', ']')},
		{`[\-]`, class.Of('-')},
		{`[\--\.]`, class.Of('-', '.')},
		{`[a\-c]`, class.Of('a', '-', 'c')},
		{`[\\]`, class.Of('\\')},
		{"[^a]", class.Not(class.Of('a'))},
		{"[^ab]", class.Not(class.Of('a', 'b'))},
		{"[^a-c]", class.Not(class.Range('a', 'c'))},
		{`[^\^]`, class.Not(class.Of('^'))},
		{`[^\x01-\xff]`, class.Of(0)},
		{`[^\x00-\xfe]`, class.Of(255)},
		{`[^"\\]`, class.Not(class.Of('"', '\\'))},
		{"[,]", class.Of(',')},
		{"[ \t]", class.Of(' ', '\t')},
	} {
		wantsParse(t, at.s, of(at.want))
		wantsParse(t, at.s+"b", seq(of(at.want), one('b')))
		wantsParse(t, "("+at.s+")?", rep(of(at.want), 0, 1))
	}
}

// P6.1: every range there is; one that falls is told at its second byte.
func TestParseAllRanges(t *testing.T) {
	for low := range 256 {
		for high := range 256 {
			s := fmt.Sprintf(`[\x%02x-\x%02x]`, low, high)
			if low <= high {
				wantsParse(t, s, of(class.Range(byte(low), byte(high))))
			} else {
				wantsError(t, s, api.ErrForm, 6)
			}
		}
	}
}

// P6.1: at which byte each error is met.
func TestParseErrors(t *testing.T) {
	for _, at := range []struct {
		s  string
		at int
	}{
		// Signs at the beginning.
		{"*", 0}, {"+", 0}, {"?", 0}, {"{1}", 0}, {"{", 0}, {"}", 0}, {"]", 0}, {"-", 0}, {"^", 0}, {")", 0},
		{"(*", 1}, {"(*)", 1}, {"(+a)", 1}, {"(?:a)", 1}, {"({2})", 1}, {"a|*", 2}, {"a|{2}", 2}, {"|?", 1}, {"a(|+)", 3},
		// Signs behind a sign.
		{"a**", 2}, {"a*+", 2}, {"a+?", 2}, {"a??", 2}, {"a*{2}", 2}, {"a*{", 2}, {"a*{3,2}", 2}, {"a{2}*", 4}, {"a{2}{3}", 4}, {"a{2,}+", 5},
		{"a{2,3}{1}", 6}, {"(a)*?", 4}, {"[a]+*", 4}, {"(a*)**", 5}, {"ab?c++", 5}, {".{9}?", 4},
		// Signs that stand where a byte does.
		{"a-b", 1}, {"a^", 1}, {"a]", 1}, {"a}", 1}, {"a{2}}", 4}, {"a-", 1}, {"(a-)", 2}, {"a*-", 2}, {"^a", 0}, {"a|^", 2}, {"[a]]", 3},
		// Brackets.
		{"(", 1}, {"(a", 2}, {"(a|", 3}, {"((a)", 4}, {"()(", 3}, {"a)", 1}, {"(a))", 3}, {"())", 2}, {"a|)", 2}, {"(a*", 3}, {"a(b(c)", 6}, {"a*)", 2},
		// Sets.
		{"[", 1}, {"[]", 1}, {"[^", 2}, {"[^]", 2}, {"[a", 2}, {"[a-", 3}, {"[a-c", 4}, {"[^a", 3}, {"[a-]", 3}, {"[^a-]", 4}, {"[-a]", 1}, {"[a-c-e]", 4},
		{"[b-a]", 3}, {"[^b-a]", 4}, {"[ab-a]", 4}, {`[b-\x61]`, 3}, {`[\x62-\x61]`, 6}, {`[b-\n]`, 3}, {"[b-a", 3}, {"[ac-b-d", 4}, {`[b-\x6`, 6}, {`[b-\`, 4},
		{"[^^]", 2}, {"[a^]", 2}, {"[[]", 1}, {"[a[]", 2}, {"[.]", 1}, {"[*]", 1}, {"[a|b]", 2}, {"[(]", 1}, {"[)]", 1}, {"[{]", 1}, {"[}]", 1}, {"[?]", 1}, {"[+]", 1}, {"[--a]", 1},
		{"[a-.]", 3}, {"[a--]", 3}, {"[a-^]", 3}, {"[]a]", 1}, {"[^]a]", 2},
		// A set that is empty, when turned: at its ].
		{`[^\x00-\xff]`, 11}, {"[^\x00-\xff]", 5}, {`[^\x00-\x7f\x80-\xff]`, 20}, {`a[^\x00-\xff]*`, 12}, {`[^\x00-\xff`, 11}, {`([^\x00-\xff])`, 12},
		// Times.
		{"a{", 2}, {"a{}", 2}, {"a{,}", 2}, {"a{,2}", 2}, {"a{x}", 2}, {"a{ 1}", 2}, {"a{-1}", 2}, {"a{+1}", 2}, {"a{1", 3}, {"a{12", 4}, {"a{1 }", 3}, {"a{1x}", 3}, {"a{1-2}", 3},
		{"a{123}", 4}, {"a{001}", 4}, {"a{1,", 4}, {"a{1,2", 5}, {"a{1,23", 6}, {"a{1,x}", 4}, {"a{1,2x}", 5}, {"a{1,,}", 4}, {"a{1,2,}", 5}, {"a{1,2,3}", 5}, {"a{1,123}", 6}, {"a{12,123}", 7}, {"a{1, 2}", 4},
		{"a{0}", 3}, {"a{00}", 4}, {"a{0,0}", 5}, {"a{00,00}", 7}, {"a{1,0}", 5}, {"a{3,2}", 5}, {"a{32,31}", 7}, {"a{10,9}", 6}, {"a{33}", 4}, {"a{99}", 4}, {"a{33,}", 5}, {"a{99,}", 5},
		{"a{1,33}", 6}, {"a{0,33}", 6}, {"a{33,33}", 7}, {"a{33,34}", 7}, {"a{33,1}", 6}, {"a{3,2", 5}, {"a{33,", 5}, {"a{0", 3}, {"(ab){0}", 6}, {"[ab]{3,2}", 8}, {"a{3,2}*", 5},
		// Strokes.
		{`\`, 1}, {`a\`, 2}, {`(\`, 2}, {`[\`, 2}, {`\a`, 1}, {`\d`, 1}, {`\N`, 1}, {`\X41`, 1}, {`\0`, 1}, {`\"`, 1}, {`\/`, 1}, {`\,`, 1}, {`\ `, 1}, {"\\\n", 1}, {"\\\x00", 1}, {"\\\xff", 1},
		{`\x`, 2}, {`\x4`, 3}, {`\xg0`, 2}, {`\x4g`, 3}, {`\x4G`, 3}, {`\xA1`, 2}, {`\x{41}`, 2}, {`\x 41`, 2}, {`\x-1`, 2}, {`\x+1`, 2}, {`[\x4]`, 4}, {`\x4)`, 3},
	} {
		wantsError(t, at.s, api.ErrForm, at.at)
		// What stands ahead shifts the place alone.
		wantsError(t, "b|"+at.s, api.ErrForm, at.at+2)
	}
}

// P6.1: of several errors the first from the left.
func TestParseFirstError(t *testing.T) {
	for _, at := range []struct {
		s  string
		at int
	}{
		{"*[b-a]", 0}, {"[b-a]*)", 3}, {"a{3,2}a{0}", 5}, {"a{0}**", 3}, {"a**{0}", 2}, {`[b-a][^\x00-\xff]`, 3}, {`[^\x00-\xff][b-a]`, 11},
		{"(a**", 3}, {"a)(", 1}, {"a{33,x", 5}, {`\q\q`, 1}, {"a-b-c", 1}, {"(()", 3}, {"([)", 2}, {"(a]b", 2}, {"[b-aq-p]", 3}, {"[a-bq-p]", 6},
	} {
		wantsError(t, at.s, api.ErrForm, at.at)
	}
}

// P6.1: all short texts of some bytes are held against a parser that goes byte by byte.
func TestParseAllShortTexts(t *testing.T) {
	for _, at := range []struct {
		bytes string
		most  int
	}{
		{`a()|*.`, 6},
		{`a*{},013`, 6},
		{`[]^-ab`, 6},
		{`[]^-b\x61`, 6},
		{`a.|*+?()[]{}\^-1,nx`, 4},
	} {
		eachText(at.bytes, at.most, func(s string) { wantsPlainParse(t, s) })
	}
}

// eachText calls for each text of some bytes that has at most so many.
func eachText(bytes string, most int, call func(s string)) {
	texts := []string{""}
	for n := 0; ; n++ {
		for _, s := range texts {
			call(s)
		}
		if n == most {
			return
		}
		var longer []string
		for _, s := range texts {
			for i := range len(bytes) {
				longer = append(longer, s+bytes[i:i+1])
			}
		}
		texts = longer
	}
}

// wantsPlainParse holds Parse against the plain parser.
func wantsPlainParse(t *testing.T, s string) {
	t.Helper()
	want, wantAt, ok := plainParse(s)
	r, at, e := regex.Parse(s)
	switch {
	case !ok:
		if e != api.ErrForm || at != wantAt || !plainSame(r, api.Re{}) {
			t.Fatalf("Parse(%q): error %d at %d, %s; want ErrForm at %d", s, e, at, tell(r), wantAt)
		}
	case !plainMay(want):
		if e != api.ErrLong || at != 0 || !plainSame(r, api.Re{}) {
			t.Fatalf("Parse(%q): error %d at %d, %s; want ErrLong at 0", s, e, at, tell(r))
		}
	default:
		if e != api.OK || at != 0 || !plainSame(r, want) {
			t.Fatalf("Parse(%q): error %d at %d, %s; want %s", s, e, at, tell(r), tell(want))
		}
	}
}

// P6.1: long texts by chance, well formed ones with a byte changed among them.
func TestParseTextsByChance(t *testing.T) {
	r := rand.New(rand.NewSource(61))
	const bytes = `abn01,x.|*+?()[]{}\^-`
	for range 20000 {
		s := plainPrint(anyRe(r, 1+r.Intn(6)))
		if len(s) > 1024 {
			continue
		}
		wantsPlainParse(t, s)
		for range r.Intn(3) {
			i, b := r.Intn(len(s)+1), bytes[r.Intn(len(bytes))]
			s = s[:i] + string(b) + s[min(len(s), i+r.Intn(2)):]
		}
		if len(s) <= 1024 {
			wantsPlainParse(t, s)
		}
	}
	for range 20000 {
		b := make([]byte, r.Intn(30))
		for i := range b {
			b[i] = bytes[r.Intn(len(bytes))]
		}
		wantsPlainParse(t, string(b))
	}
}

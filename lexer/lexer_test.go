package lexer_test

import (
	"fmt"
	"math"
	"math/rand"
	"slices"
	"strings"
	"sync"
	"testing"

	"winnower/api"
	"winnower/lexer"
)

// P13.1: the example.
func TestExample(t *testing.T) {
	wants(t, lexer.New(), "up 3.5s", word("up"), blank(" "), number("3.5"), word("s"))
}

// P13.1: each kind alone, and one behind the other.
func TestEachKind(t *testing.T) {
	x := lexer.New()
	each := []api.Token{
		stamp("2026-11-19T23:31:00"), ip("127.0.0.1"), mac("00:1a:22:33:44:ff"), hex("0xdeadBEEF"), number("-3.5"), quoted(`"a \" b"`), word("up_1"), blank(" \t "), other("="),
	}
	for kind, a := range each {
		if a.Kind != kind {
			t.Error(a)
		}
		wants(t, x, a.Text, a)
		for _, b := range each {
			// An = between keeps them apart, where they would be one.
			wants(t, x, a.Text+"="+b.Text, a, other("="), b)
			wants(t, x, "="+a.Text+"=="+b.Text+"=", other("="), a, other("="), other("="), b, other("="))
		}
	}
	wants(t, x, "2026-11-19T23:31:00 127.0.0.1 00:1a:22:33:44:ff\t0xff -3.5\"q\"up=",
		stamp("2026-11-19T23:31:00"), blank(" "), ip("127.0.0.1"), blank(" "), mac("00:1a:22:33:44:ff"), blank("\t"), hex("0xff"), blank(" "), number("-3.5"), quoted(`"q"`), word("up"), other("="))
}

// P13.1: a line of no byte.
func TestEmptyLine(t *testing.T) {
	wants(t, lexer.New(), "")
}

// P13.1: of MaxLine bytes, and of one more.
func TestLongLines(t *testing.T) {
	x := lexer.New()
	for _, s := range []string{"a", "7", " ", "=", "\xff", "\"", "\x00"} {
		line := strings.Repeat(s, api.MaxLine)
		l := lex(t, x, line)
		if lexer.Join(l...) != line {
			t.Errorf("Join of %d times %q: %q", api.MaxLine, s, lexer.Join(l...))
		}
		for _, n := range []int{api.MaxLine + 1, api.MaxLine + 2, 2 * api.MaxLine, 100000} {
			if l, e := x.Lex(strings.Repeat(s, n)); e != api.ErrLong || len(l) != 0 {
				t.Errorf("%d times %q: error %d, %d tokens", n, s, e, len(l))
			}
		}
	}
	wants(t, x, strings.Repeat("a", 256), word(strings.Repeat("a", 256)))
	wants(t, x, strings.Repeat("=", 256), others(strings.Repeat("=", 256))...)
	wants(t, x, strings.Repeat("a=", 128), slices.Repeat([]api.Token{word("a"), other("=")}, 128)...)
	wants(t, x, `"`+strings.Repeat("x", 254)+`"`, quoted(`"`+strings.Repeat("x", 254)+`"`))
}

// P13.1: the longest text first, of two kinds with the same text the lowest; what breaks off is then several tokens.
func TestLongestThenLowest(t *testing.T) {
	x := lexer.New()
	for _, at := range []struct {
		line string
		want []api.Token
	}{
		// One text, two kinds: a digit is a number ahead of another byte, a letter a word, a blank a blank.
		{"7", []api.Token{number("7")}},
		{"a", []api.Token{word("a")}},
		{" ", []api.Token{blank(" ")}},
		{"_", []api.Token{word("_")}},
		// A longer text of a higher kind goes ahead of a shorter one of a lower kind.
		{"0xf", []api.Token{hex("0xf")}},
		{"12ab", []api.Token{number("12"), word("ab")}},
		{"ab12", []api.Token{word("ab12")}},
		{"a0:b0", []api.Token{word("a0"), other(":"), word("b0")}},
		{"aa:bb:cc:dd:ee:ff", []api.Token{mac("aa:bb:cc:dd:ee:ff")}},
		{"aabb:cc:dd:ee:ff:00", []api.Token{word("aabb"), other(":"), word("cc"), other(":"), word("dd"), other(":"), word("ee"), other(":"), word("ff"), other(":"), number("00")}},
		{"aa:bb:cc:dd:ee:ff:00", []api.Token{mac("aa:bb:cc:dd:ee:ff"), other(":"), number("00")}},
		{"aa:bb:cc:dd:ee:ffg", []api.Token{mac("aa:bb:cc:dd:ee:ff"), word("g")}},
		// A stamp that breaks off.
		{"2026-11-19T23:31:0", []api.Token{number("2026"), number("-11"), number("-19"), word("T23"), other(":"), number("31"), other(":"), number("0")}},
		{"2026-11-19T23:31:001", []api.Token{stamp("2026-11-19T23:31:00"), number("1")}},
		{"12026-11-19T23:31:00", []api.Token{number("12026"), number("-11"), number("-19"), word("T23"), other(":"), number("31"), other(":"), number("00")}},
		{"2026-11-19", []api.Token{number("2026"), number("-11"), number("-19")}},
		// An ip that breaks off, or goes on.
		{"1.2.3", []api.Token{number("1.2"), other("."), number("3")}},
		{"1.2.3.", []api.Token{number("1.2"), other("."), number("3"), other(".")}},
		{"1.2.3.4", []api.Token{ip("1.2.3.4")}},
		{"1.2.3.4.5", []api.Token{ip("1.2.3.4"), other("."), number("5")}},
		{"1.2.3.4567", []api.Token{ip("1.2.3.456"), number("7")}},
		{"1234.2.3.4", []api.Token{number("1234.2"), other("."), number("3.4")}},
		{"-1.2.3.4", []api.Token{number("-1.2"), other("."), number("3.4")}},
		// A hex that breaks off.
		{"0x", []api.Token{number("0"), word("x")}},
		{"0xg", []api.Token{number("0"), word("xg")}},
		{"0x1g", []api.Token{hex("0x1"), word("g")}},
		{"00x1", []api.Token{number("00"), word("x1")}},
		{"0X1", []api.Token{number("0"), word("X1")}},
		// Numbers.
		{"3.", []api.Token{number("3"), other(".")}},
		{"3.x", []api.Token{number("3"), other("."), word("x")}},
		{".5", []api.Token{other("."), number("5")}},
		{"3.5.7", []api.Token{number("3.5"), other("."), number("7")}},
		{"-", []api.Token{other("-")}},
		{"--3", []api.Token{other("-"), number("-3")}},
		{"3-4", []api.Token{number("3"), number("-4")}},
		{"3 - 4", []api.Token{number("3"), blank(" "), other("-"), blank(" "), number("4")}},
		{"a-4", []api.Token{word("a"), number("-4")}},
		// Quoted texts, also such that are not ended.
		{`""`, []api.Token{quoted(`""`)}},
		{`"a" "b"`, []api.Token{quoted(`"a"`), blank(" "), quoted(`"b"`)}},
		{`"a""b"`, []api.Token{quoted(`"a"`), quoted(`"b"`)}},
		{`"a"b"`, []api.Token{quoted(`"a"`), word("b"), other(`"`)}},
		{`"a`, []api.Token{other(`"`), word("a")}},
		{`"a\"`, []api.Token{other(`"`), word("a"), other(`\`), other(`"`)}},
		{`"a\""`, []api.Token{quoted(`"a\""`)}},
		{`"a\\"`, []api.Token{quoted(`"a\\"`)}},
		{`"a\\" b`, []api.Token{quoted(`"a\\"`), blank(" "), word("b")}},
		{`"1.2.3.4"`, []api.Token{quoted(`"1.2.3.4"`)}},
		{`"1.2.3.4`, []api.Token{other(`"`), ip("1.2.3.4")}},
		{`\"a"`, []api.Token{other(`\`), quoted(`"a"`)}},
		{"\"\n\xff\x00\"", []api.Token{quoted("\"\n\xff\x00\"")}},
		// Words and blanks.
		{"up\tdown  _x", []api.Token{word("up"), blank("\t"), word("down"), blank("  "), word("_x")}},
		{"a\nb\r", []api.Token{word("a"), other("\n"), word("b"), other("\r")}},
		{"key=7;x", []api.Token{word("key"), other("="), number("7"), other(";"), word("x")}},
		// Bytes that are no text of UTF-8, and such that are.
		{"é", others("é")},
		{"a\xc3\xa9b", []api.Token{word("a"), other("\xc3"), other("\xa9"), word("b")}},
		{"\xff\xfe 7\x80", []api.Token{other("\xff"), other("\xfe"), blank(" "), number("7"), other("\x80")}},
		{"日本", others("日本")},
	} {
		wants(t, x, at.line, at.want...)
	}
}

// P13.1: each of the 256 bytes alone, and between others.
func TestEachByte(t *testing.T) {
	x := lexer.New()
	for b := range 256 {
		s := string([]byte{byte(b)})
		kind := api.TokOther
		switch {
		case '0' <= b && b <= '9':
			kind = api.TokNumber
		case 'a' <= b && b <= 'z', 'A' <= b && b <= 'Z', b == '_':
			kind = api.TokWord
		case b == ' ', b == '\t':
			kind = api.TokBlank
		}
		wants(t, x, s, tok(kind, s))
		wants(t, x, "="+s+"=", other("="), tok(kind, s), other("="))
	}
}

// P13.1: each token is the longest text that stands there, of the lowest kind, by chapter 7; P13.2: Join of them is the line.
func TestByChance(t *testing.T) {
	x, l := lexer.New(), patterns(t)
	r := rand.New(rand.NewSource(131))
	for range 3000 {
		line := anyLine(r)
		wants(t, x, line, model(l, line)...)
	}
	for range 500 {
		b := make([]byte, r.Intn(api.MaxLine+1))
		for i := range b {
			b[i] = byte(r.Intn(256))
		}
		wants(t, x, string(b), model(l, string(b))...)
	}
}

// P13.1
func TestHas(t *testing.T) {
	x := lexer.New()
	line := `2026-11-19T23:31:00 up "a b" from 127.0.0.1:80 0xff -3.5 00:11:22:33:44:55=`
	for _, at := range lex(t, x, line) {
		for kind := -1; kind <= api.Kinds; kind++ {
			if got := x.Has(line, kind, at.Text); got != (kind == at.Kind) {
				t.Errorf("Has %d %q: %v", kind, at.Text, got)
			}
		}
	}
	for _, at := range []struct {
		line string
		kind int
		text string
		want bool
	}{
		{"up 3", api.TokWord, "up", true}, {"up 3", api.TokBlank, " ", true}, {"up 3", api.TokNumber, "3", true},
		// Of another kind, a part of a text, more than a text, nothing.
		{"up 3", api.TokNumber, "up", false}, {"up 3", api.TokOther, "3", false}, {"up 3", api.TokOther, "up", false}, {"up 3", -1, "up", false}, {"up 3", math.MaxInt, "3", false}, {"up 3", math.MinInt, "3", false},
		{"up 3", api.TokWord, "u", false}, {"up 3", api.TokWord, "p", false}, {"up 3", api.TokWord, "up ", false}, {"up 3", api.TokWord, "up 3", false}, {"up 3", api.TokWord, "Up", false}, {"up 33", api.TokNumber, "3", false},
		{"up 3", api.TokWord, "", false}, {"up 3", api.TokOther, "", false}, {"", api.TokWord, "", false}, {"", api.TokStamp, "", false}, {"", api.TokWord, "up", false}, {"", 0, "", false},
		{"1.2.3.4", api.TokIP, "1.2.3.4", true}, {"1.2.3.4", api.TokNumber, "1.2", false}, {"1.2.3.4", api.TokNumber, "4", false},
		{`"up"`, api.TokWord, "up", false}, {`"up"`, api.TokQuoted, `"up"`, true}, {`"up`, api.TokWord, "up", true}, {`"up`, api.TokOther, `"`, true},
		// The first, one in the midst, the last, and one that is there twice.
		{"a b c", api.TokWord, "a", true}, {"a b c", api.TokWord, "b", true}, {"a b c", api.TokWord, "c", true}, {"a b a", api.TokWord, "a", true}, {"a b c", api.TokWord, "d", false},
		{"\xff\x00", api.TokOther, "\x00", true}, {"\xff\x00", api.TokOther, "\xff\x00", false},
	} {
		if got := x.Has(at.line, at.kind, at.text); got != at.want {
			t.Errorf("Has(%q, %d, %q) = %v", at.line, at.kind, at.text, got)
		}
	}
	// Of a line that is too long: nothing, whatever stands there.
	for _, n := range []int{254, 255, 1000} {
		line := "up " + strings.Repeat("=", n)
		if x.Has(line, api.TokWord, "up") != (len(line) <= api.MaxLine) || x.Has(line, api.TokOther, "=") != (len(line) <= api.MaxLine) {
			t.Errorf("Has of %d bytes", len(line))
		}
	}
	if !x.Has("up "+strings.Repeat("=", 253), api.TokWord, "up") {
		t.Error("Has of 256 bytes")
	}
}

// P13.1: of no token, of one, of many, whatever their kinds are.
func TestJoin(t *testing.T) {
	for _, at := range []struct {
		l    []api.Token
		want string
	}{
		{nil, ""},
		{[]api.Token{}, ""},
		{[]api.Token{word("up")}, "up"},
		{[]api.Token{word("")}, ""},
		{[]api.Token{word("up"), blank(" "), number("3.5")}, "up 3.5"},
		{[]api.Token{number("3"), word("up"), number("3")}, "3up3"},
		{[]api.Token{word(""), word("a"), word(""), word("b"), word("")}, "ab"},
		{[]api.Token{tok(-1, "x"), tok(99, "y"), tok(math.MinInt, "\xff\x00")}, "xy\xff\x00"},
		{[]api.Token{word("a b"), quoted("no quotes"), blank("z")}, "a bno quotesz"},
		{slices.Repeat([]api.Token{word("ab")}, 1000), strings.Repeat("ab", 1000)},
	} {
		if got := lexer.Join(at.l...); got != at.want {
			t.Errorf("Join(%v) = %q", at.l, got)
		}
	}
}

// P13.2: a nil Lexer.
func TestNil(t *testing.T) {
	var x *lexer.Lexer
	for _, line := range []string{"", "up 3", strings.Repeat("=", 256), strings.Repeat("=", 257)} {
		if l, e := x.Lex(line); e != api.ErrLong || len(l) != 0 {
			t.Errorf("%q: error %d, %v", line, e, l)
		}
		for _, text := range []string{"", "up", "="} {
			if x.Has(line, api.TokWord, text) || x.Has(line, api.TokOther, text) {
				t.Errorf("Has(%q, %q)", line, text)
			}
		}
	}
}

// P13.1, W2, W9: the same whatever was asked before, and of another Lexer.
func TestSameWhateverWasAsked(t *testing.T) {
	r := rand.New(rand.NewSource(132))
	x := lexer.New()
	var lines, want []string
	for range 100 {
		line := anyLine(r)
		lines, want = append(lines, line), append(want, tell(lex(t, x, line)))
	}
	x.Lex(strings.Repeat("a", 300))
	var group sync.WaitGroup
	for from := range 8 {
		group.Go(func() {
			own := lexer.New()
			for n := range 2 * len(lines) {
				at := (7*n + from) % len(lines)
				if got := tell(lex(t, own, lines[at])); got != want[at] {
					t.Errorf("%q became %s", lines[at], got)
				}
			}
		})
	}
	group.Wait()
	// A copy goes on as the Lexer would.
	other := *x
	for at, line := range lines {
		if got := tell(lex(t, &other, line)); got != want[at] {
			t.Errorf("%q became %s", line, got)
		}
	}
}

// W6, W7: what is handed in is left as it is, what is answered is new memory, spare room too.
func TestMemory(t *testing.T) {
	x := lexer.New()
	line := `up 3 "a" 0xff up 3 "a" 0xff up`
	first, second := lex(t, x, line), lex(t, x, line)
	want := tell(first)
	clear(first[:cap(first)])
	_ = append(first, word("!"))
	if tell(second) != want || tell(lex(t, x, line)) != want || tell(lex(t, lexer.New(), line)) != want {
		t.Error("another answer became", tell(second))
	}
	room := append(slices.Clone(second), word("spare"))
	n := len(second)
	told := fmt.Sprint(room)
	if got := lexer.Join(room[:n]...); got != line || fmt.Sprint(room) != told {
		t.Errorf("Join is %q, what was handed in became %v", got, room)
	}
	joined := lexer.Join(room...)
	clear(room)
	if joined != line+"spare" {
		t.Errorf("an answer became %q", joined)
	}
}

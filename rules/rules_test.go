package rules_test

import (
	"fmt"
	"math"
	"slices"
	"strings"
	"sync"
	"testing"

	"winnower/api"
	"winnower/dfa"
	"winnower/glush"
	"winnower/lang"
	"winnower/mini"
	"winnower/regex"
	"winnower/rules"
	"winnower/scan"
)

// table is the document's: of each kind its name and its pattern.
var table = []struct {
	kind          int
	name, pattern string
}{
	{0, "stamp", "[0-9]{4}\\x2d[0-9]{2}\\x2d[0-9]{2}T[0-9]{2}:[0-9]{2}:[0-9]{2}"},
	{1, "ip", "[0-9]{1,3}(\\.[0-9]{1,3}){3}"},
	{2, "mac", "[0-9a-f]{2}(:[0-9a-f]{2}){5}"},
	{3, "hex", "0x[0-9a-fA-F]+"},
	{4, "number", "\\-?[0-9]+(\\.[0-9]+)?"},
	{5, "quoted", "\"([^\"\\\\]|\\\\.)*\""},
	{6, "word", "[A-Za-z_][A-Za-z0-9_]*"},
	{7, "blank", "[ \\t]+"},
	{8, "other", "."},
}

// P12.1: the example.
func TestExample(t *testing.T) {
	if kind, ok := rules.Kind("ip"); kind != 1 || !ok {
		t.Error(kind, ok)
	}
}

// P12.1: of each kind, to the byte.
func TestNameAndPattern(t *testing.T) {
	if len(table) != api.Kinds {
		t.Error(len(table))
	}
	for _, at := range table {
		if got := rules.Name(at.kind); got != at.name {
			t.Errorf("Name(%d) = %q", at.kind, got)
		}
		if got := rules.Pattern(at.kind); got != at.pattern {
			t.Errorf("Pattern(%d) = %q, want %q", at.kind, got, at.pattern)
		}
		if kind, ok := rules.Kind(at.name); kind != at.kind || !ok {
			t.Errorf("Kind(%q) = %d, %v", at.name, kind, ok)
		}
	}
}

// P12.1: nothing of another kind.
func TestNoSuchKind(t *testing.T) {
	for _, kind := range []int{-1, -2, -9, 9, 10, 255, 256, 1 << 32, math.MaxInt, math.MinInt, math.MinInt + 1} {
		if name, pattern := rules.Name(kind), rules.Pattern(kind); name != "" || pattern != "" {
			t.Errorf("%d: %q, %q", kind, name, pattern)
		}
	}
}

// P12.1: -1 and false of a name that there is not, or that is written otherwise.
func TestNoSuchName(t *testing.T) {
	names := []string{"", " ", "any", "token", "0", "1", "8", "-1", "*", "stampip", "stamp ip", "\x00", "\xff", "é", strings.Repeat("ip", 100)}
	for _, at := range table {
		name := at.name
		names = append(names, strings.ToUpper(name), strings.ToUpper(name[:1])+name[1:], name+" ", " "+name, name+"s", name+"\x00", name[1:], name[:len(name)-1], name+name, at.pattern)
	}
	for _, name := range names {
		if kind, ok := rules.Kind(name); kind != -1 || ok {
			t.Errorf("Kind(%q) = %d, %v", name, kind, ok)
		}
	}
}

// parse is the expression of a pattern.
func parse(t *testing.T, pattern string) api.Re {
	t.Helper()
	r, at, e := regex.Parse(pattern)
	if e != api.OK {
		t.Fatalf("Parse(%q): error %d at %d", pattern, e, at)
	}
	return r
}

// made is the table of a pattern, step by step.
func made(t *testing.T, pattern string) scan.Table {
	t.Helper()
	g, e1 := glush.Of(parse(t, pattern))
	d, e2 := dfa.Build(g)
	m, e3 := mini.Minimal(d)
	table, e4 := scan.Compact(m)
	if e1 != api.OK || e2 != api.OK || e3 != api.OK || e4 != api.OK {
		t.Fatalf("%q: errors %d, %d, %d, %d", pattern, e1, e2, e3, e4)
	}
	return table
}

// P12.1: nine, in order, each by all the steps.
func TestTables(t *testing.T) {
	l := rules.Tables()
	if len(l) != api.Kinds {
		t.Fatal(len(l))
	}
	for kind, got := range l {
		if want := made(t, table[kind].pattern); fmt.Sprint(got) != fmt.Sprint(want) {
			t.Errorf("%s: %v, want %v", table[kind].name, got, want)
		}
	}
	// How many states and classes there are, in plain words: of other, blank, quoted.
	for kind, want := range map[int][2]int{8: {2, 1}, 7: {2, 2}, 5: {4, 3}} {
		if got := l[kind]; len(got.Next) != want[0] || len(got.Next[0]) != want[1] || len(got.Ends) != want[0] {
			t.Errorf("%s: %v", table[kind].name, got)
		}
	}
}

// texts is of each kind texts of its language, and some just beside it.
var texts = []struct{ in, out []string }{
	api.TokStamp: {
		[]string{"2026-11-19T23:31:00", "0000-00-00T00:00:00", "9999-99-99T99:99:99"},
		[]string{"", "2026-11-19", "2026-11-19T23:31", "2026-11-19T23:31:0", "2026-11-19T23:31:000", "026-11-19T23:31:00", "12026-11-19T23:31:00", "2026-1-19T23:31:00", "2026-11-9T23:31:00", "2026-11-19t23:31:00", "2026-11-19 23:31:00", "2026-11-19T3:31:00", "2026/11/19T23:31:00", "2026-11-19T23.31.00", "2026-11-19T23:31:00Z", " 2026-11-19T23:31:00", "202a-11-19T23:31:00"},
	},
	api.TokIP: {
		[]string{"1.2.3.4", "127.0.0.1", "255.255.255.255", "999.999.999.999", "0.0.0.0", "000.000.000.000", "1.22.333.4"},
		[]string{"", "1", "1.2", "1.2.3", "1.2.3.", "1.2.3.4.", "1.2.3.4.5", ".1.2.3.4", "1..2.3", "1234.1.1.1", "1.1234.1.1", "1.1.1234.1", "1.1.1.1234", "a.2.3.4", "1,2,3,4", "1.2.3.-4", "1.2.3.f"},
	},
	api.TokMac: {
		[]string{"00:11:22:33:44:55", "aa:bb:cc:dd:ee:ff", "0a:f1:9b:c3:4d:e5"},
		[]string{"", "00:11:22:33:44", "00:11:22:33:44:5", "00:11:22:33:44:555", "00:11:22:33:44:55:66", "00:11:22:33:44:", "AA:bb:cc:dd:ee:ff", "aa:bb:cc:dd:ee:fg", "aa-bb-cc-dd-ee-ff", "0:11:22:33:44:55", "000:11:22:33:44:55", "aabbccddeeff"},
	},
	api.TokHex: {
		[]string{"0x0", "0xf", "0xF", "0xdeadBEEF", "0x0123456789abcdefABCDEF", "0x" + strings.Repeat("9", 250)},
		[]string{"", "0", "0x", "x1", "0X1", "0xg", "0xG", "0x1g", "00x1", "1x1", "0x 1", "0x-1", "0x1.1", "-0x1"},
	},
	api.TokNumber: {
		[]string{"0", "7", "-1", "-0", "007", "3.5", "-3.5", "0.0", "12345678901234567890.5", strings.Repeat("9", 256)},
		[]string{"", "-", "--1", "+1", "1-", "3.", ".5", "-.5", "3.5.", "3.5.1", "3..5", "-3.", "3.-5", "1e5", "1,5", "a", "1 ", "0x1"},
	},
	api.TokQuoted: {
		[]string{`""`, `"a"`, `" "`, `"a b c"`, `"\""`, `"\\"`, `"\\\""`, `"a\"b"`, `"\a"`, "\"\x00\xff\n\"", "\"\\\n\"", "\"\\\xff\"", `"'"`},
		[]string{"", `"`, `"a`, `a"`, `"a"b`, `"a" `, `"""`, `""""`, `"\"`, `"\\\"`, `"a\"`, `\""`, `"a"b"`, `'a'`, `"\`, `"a"""`},
	},
	api.TokWord: {
		[]string{"a", "Z", "_", "up", "UpDown", "a1", "_1", "__", "a_b_c9", "Az09_", strings.Repeat("w", 256)},
		[]string{"", "1", "1a", "a-b", "a.b", "a b", " a", "a ", "-a", "é", "a\xc3\xa9", "@a", "a[", "`a", "a{", "a\x00"},
	},
	api.TokBlank: {
		[]string{" ", "\t", "  ", " \t \t", strings.Repeat(" ", 256)},
		[]string{"", "\n", "\r", " a", "a ", " \n", "\v", "\x00", "\xa0", " \t\r", "_"},
	},
	api.TokOther: {
		[]string{"a", "0", " ", "\x00", "\n", "\xff", ".", "\"", "\\"},
		[]string{"", "ab", "..", "\xc3\xa9", "\x00\x00", "  "},
	},
}

// P12.1: each Table has the texts of its kind's language (7), and none beside.
func TestLanguages(t *testing.T) {
	l := rules.Tables()
	for kind, some := range texts {
		name, r := table[kind].name, parse(t, rules.Pattern(kind))
		for _, s := range some.in {
			if got := l[kind].Longest(s, 0); got != len(s) || !lang.Match(r, s) {
				t.Errorf("%s: %q has %d", name, s, got)
			}
		}
		for _, s := range some.out {
			if got := l[kind].Longest(s, 0); got == len(s) || lang.Match(r, s) {
				t.Errorf("%s: %q has %d", name, s, got)
			}
		}
		// With another byte at each place, one byte more, one byte less.
		for _, s := range slices.Concat(some.in, some.out) {
			for at := range min(len(s), 24) {
				for _, b := range []byte("0afFgTx:.-\"\\ \t_zZ\x00\xff") {
					wantsLongest(t, l[kind], r, s[:at]+string([]byte{b})+s[at+1:])
					wantsLongest(t, l[kind], r, s[:at]+string([]byte{b})+s[at:])
				}
				wantsLongest(t, l[kind], r, s[:at]+s[at+1:])
				wantsLongest(t, l[kind], r, s[:at])
			}
		}
	}
}

// wantsLongest holds what a Table tells against chapter 7.
func wantsLongest(t *testing.T, table scan.Table, r api.Re, s string) {
	t.Helper()
	if got, want := table.Longest(s, 0), lang.Longest(r, s, 0); got != want {
		t.Errorf("%s: Longest of %q is %d, want %d", regex.Print(r), s, got, want)
	}
}

// P12.1: the longest digits of an ip, and one more; a stroke before a quoted text's last quote.
func TestEdges(t *testing.T) {
	l := rules.Tables()
	for _, at := range []struct {
		kind int
		s    string
		want int
	}{
		{api.TokIP, "111.222.333.444", 15}, {api.TokIP, "111.222.333.4444", 15}, {api.TokIP, "1111.222.333.444", -1}, {api.TokIP, "1.2.3.4.5", 7}, {api.TokIP, "1.2.3.x", -1},
		{api.TokQuoted, `"a\"`, -1}, {api.TokQuoted, `"a\""`, 5}, {api.TokQuoted, `"a\\"`, 5}, {api.TokQuoted, `"a\\" b"`, 5}, {api.TokQuoted, `"a" "b"`, 3}, {api.TokQuoted, `"a`, -1},
		{api.TokNumber, "3.x", 1}, {api.TokNumber, "-3.14.15", 5}, {api.TokNumber, "--3", -1}, {api.TokHex, "0x", -1}, {api.TokHex, "0x12g", 4}, {api.TokHex, "0x1.2", 3},
		{api.TokStamp, "2026-11-19T23:31:001", 19}, {api.TokMac, "00:11:22:33:44:55:66", 17}, {api.TokMac, "00:11:22:33:44:556", 17}, {api.TokWord, "up-1", 2}, {api.TokWord, "9up", -1}, {api.TokBlank, " \t\n", 2}, {api.TokOther, "ab", 1}, {api.TokOther, "", -1},
	} {
		if got := l[at.kind].Longest(at.s, 0); got != at.want {
			t.Errorf("%s: Longest of %q is %d, want %d", table[at.kind].name, at.s, got, at.want)
		}
	}
}

// P12.2: each byte alone is a text of kind 8; which other kinds have it.
func TestEachByteAlone(t *testing.T) {
	l := rules.Tables()
	for b := range 256 {
		s := string([]byte{byte(b)})
		if !lang.Match(parse(t, rules.Pattern(api.TokOther)), s) || l[api.TokOther].Longest(s, 0) != 1 {
			t.Errorf("byte %d is no text of kind 8", b)
		}
		c := rune(b)
		for kind, want := range map[int]bool{
			api.TokNumber: strings.ContainsRune("0123456789", c),
			api.TokWord:   strings.ContainsRune("_ABCDEFGHIJKLMNOPQRSTUVWXYZabcdefghijklmnopqrstuvwxyz", c),
			api.TokBlank:  c == ' ' || c == '\t',
			api.TokStamp:  false, api.TokIP: false, api.TokMac: false, api.TokHex: false, api.TokQuoted: false,
		} {
			if got := l[kind].Longest(s, 0) == 1; got != want {
				t.Errorf("%s: byte %d: %v", table[kind].name, b, got)
			}
		}
		if kind, end := scan.First(s, 0, l...); end != 1 || kind < 0 {
			t.Errorf("byte %d: %d, %d", b, kind, end)
		}
	}
}

// P12.1, W2: the same whatever was asked before, and by however many at once.
func TestSameWhateverWasAsked(t *testing.T) {
	want := fmt.Sprint(rules.Tables())
	var group sync.WaitGroup
	for range 4 {
		group.Go(func() {
			if got := fmt.Sprint(rules.Tables()); got != want {
				t.Error(got)
			}
			if kind, ok := rules.Kind(rules.Name(3)); kind != 3 || !ok || rules.Pattern(3) != table[3].pattern {
				t.Error(kind, ok)
			}
		})
	}
	group.Wait()
}

// P12.1, W6, W7: new memory each time, spare room too.
func TestMemory(t *testing.T) {
	first, second := rules.Tables(), rules.Tables()
	want := fmt.Sprint(first)
	for _, table := range first {
		for _, row := range table.Next {
			clear(row[:cap(row)])
			_ = append(row, 9, 9, 9)
		}
		clear(table.Next[:cap(table.Next)])
		clear(table.Ends[:cap(table.Ends)])
	}
	clear(first[:cap(first)])
	if got := fmt.Sprint(second); got != want {
		t.Error("another answer became", got)
	}
	if got := fmt.Sprint(rules.Tables()); got != want {
		t.Error("what is answered became", got)
	}
}

// W6: no two lists of one answer share any.
func TestListsApart(t *testing.T) {
	l := rules.Tables()
	for i := range l {
		told := fmt.Sprint(slices.Delete(slices.Clone(l), i, i+1))
		for _, row := range l[i].Next {
			clear(row[:cap(row)])
		}
		clear(l[i].Next[:cap(l[i].Next)])
		clear(l[i].Ends[:cap(l[i].Ends)])
		if got := fmt.Sprint(slices.Delete(slices.Clone(l), i, i+1)); got != told {
			t.Errorf("what is of kind %d is of another too", i)
		}
	}
}

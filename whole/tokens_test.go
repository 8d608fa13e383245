package whole_test

import (
	"math/rand"
	"slices"
	"strings"
	"testing"

	"winnower/api"
	"winnower/lang"
	"winnower/lexer"
	"winnower/part"
	"winnower/regex"
	"winnower/rules"
	"winnower/tool"
)

// allKinds is lines of all kinds, of what breaks off, of bytes of all values, of the greatest length.
func allKinds() []string {
	l := []string{
		"", "2026-11-20T06:46:00", "10.0.0.1", "00:1a:22:33:44:ff", "0xdeadBEEF", "-3.5", `"a \" b"`, "up_1", " \t ", "=",
		"2026-11-20T06:46:00 10.0.0.1 00:1a:22:33:44:ff\t0xff -3.5\"q\"up=",
		"2026-11-20T06:46:0", "2026-11-20T06:46:000", "2026-11-20", "1.2.3", "1.2.3.4.5", "1.2.3.4567", "1234.1.1.1", "aa:bb:cc:dd:ee", "aa:bb:cc:dd:ee:ff:00", "aa:bb:cc:dd:ee:fg", "0x", "0xg", "0X1", "--3", "3.", "3.x", ".5", "3-4", `"a`, `"a\"`, `a"b"c"`, `"\`, `""""`, "_", "a-b_c", "7up", "up7",
		strings.Repeat("x", 256), strings.Repeat("=", 256), strings.Repeat("7", 256), strings.Repeat(" ", 256), `"` + strings.Repeat("\\", 254) + `"`, strings.Repeat("a=", 128), strings.Repeat("\xff", 256), strings.Repeat("1.", 128), strings.Repeat(`"`, 255), strings.Repeat("ab:", 85),
		strings.Repeat("= ", 32), strings.Repeat("= ", 33), strings.Repeat("a ", 31) + "a",
	}
	var all [256]byte
	for c := range all {
		all[c] = byte(c)
		b := string(all[c : c+1])
		l = append(l, b, b+b, "a"+b+"a", "1"+b+"1", `"`+b+`"`, " "+b+" ")
	}
	l = append(l, string(all[:]))
	slices.Reverse(all[:])
	return append(l, string(all[:]))
}

// chanceLines is lines by chance, of pieces that tokens begin with, go on with, and break off at.
func chanceLines(seed int64, n int) []string {
	pieces := []string{"2026-11-20T06:46:00", "2026-11-20", "T23:31", "127.0.0.1", "1.2.3", ".", "4", "00:11:22:33:44:55", "aa:bb:cc", ":", "dd", "0x", "0xff", "1f", "-", "-3.5", "12", "\"", "\\", "\"a b\"", "up", "_x1", "Z", " ", "\t", "\n", "é", "\xff", "\x00", "=", "[", "]"}
	r := rand.New(rand.NewSource(seed))
	var l []string
	for range n {
		var b strings.Builder
		for range r.Intn(14) {
			b.WriteString(pieces[r.Intn(len(pieces))])
		}
		line := []byte(b.String()[:min(b.Len(), api.MaxLine)])
		if len(line) > 0 && r.Intn(4) == 0 {
			line[r.Intn(len(line))] = byte(r.Intn(256))
		}
		l = append(l, string(line))
	}
	return l
}

// P0.3: the table is chapter 12's.
func TestTable(t *testing.T) {
	for kind, k := range kinds() {
		if n, ok := rules.Kind(k[0]); !ok || n != kind || rules.Name(kind) != k[0] || rules.Pattern(kind) != k[1] {
			t.Errorf("kind %d: %d %v %q %q, want %q", kind, n, ok, rules.Name(kind), rules.Pattern(kind), k)
		}
	}
	if api.Kinds != len(kinds()) || rules.Name(api.Kinds) != "" {
		t.Error(api.Kinds, rules.Name(api.Kinds))
	}
}

// P0.3: the tokens of any line are the line; each is the longest text that stands there in the union of the patterns' languages, of the lowest kind.
func TestTokens(t *testing.T) {
	p := fresh(t, 64)
	var patterns []api.Re
	for kind := range api.Kinds {
		r, _, e := regex.Parse(rules.Pattern(kind))
		patterns = append(patterns, must(r, e))
	}
	for _, line := range append(allKinds(), chanceLines(3, 1500)...) {
		got, e := p.w.Engine().Lexer.Lex(line)
		if want := plainTokens(line); e != api.OK || !slices.Equal(got, want) {
			t.Errorf("%q: error %d, %v, want %v", line, e, got, want)
		}
		if lexer.Join(got...) != line {
			t.Errorf("the tokens of %q are %q", line, lexer.Join(got...))
		}
		at := 0
		for _, token := range got {
			end := at + len(token.Text)
			for kind, r := range patterns {
				if to := lang.Longest(r, line, at); to > end || to == end && kind < token.Kind || to < end && kind == token.Kind {
					t.Errorf("%q: at %d kind %d goes on to %d, the token is %v", line, at, kind, to, token)
				}
			}
			at = end
		}
	}
	if l, e := p.w.Engine().Lexer.Lex(strings.Repeat("x", 257)); e != api.ErrLong || len(l) > 0 {
		t.Error(e, l)
	}
}

// P0.3: a script tells the same tokens.
func TestTokensOfScripts(t *testing.T) {
	text, want := "", ""
	for _, line := range append(allKinds(), chanceLines(4, 500)...) {
		if strings.Contains(line, "\n") {
			continue
		}
		text += "tokens " + line + "\ncount\n"
		for _, token := range plainTokens(line) {
			want += kinds()[token.Kind][0] + " " + quoted(token.Text) + "\n"
		}
		want += "0\n"
	}
	got := strings.Split(tool.Run(text), "\n")
	for k, line := range strings.Split(want, "\n") {
		if k >= len(got) || got[k] != line {
			t.Fatalf("line %d of the answer: %q, want %q", k, got[min(k, len(got)-1)], line)
		}
	}
}

// rendered is a line by its template and its variables.
func (p *pair) rendered(i int) string {
	p.t.Helper()
	e := p.w.Engine()
	a, err := e.Assigned(i)
	if err != api.OK {
		p.t.Fatalf("line %d: error %d", i, err)
	}
	template, ok := e.Template(a.ID)
	if !ok {
		p.t.Fatalf("line %d: no template %d", i, a.ID)
	}
	return must(part.Render(template, a.Vars...))
}

// P0.3: a line's template, with its variables, is the line, when it comes and behind all others, sealed, compacted and opened.
func TestTemplates(t *testing.T) {
	var all []string
	for _, line := range allKinds() {
		if len(line) < 100 {
			all = append(all, line)
		}
	}
	all = append(append(all[:250], allKinds()[40:60]...), chanceLines(5, 250)...)
	rand.New(rand.NewSource(6)).Shuffle(len(all), func(i, k int) { all[i], all[k] = all[k], all[i] })
	p := fresh(t, 2000)
	var first []api.Assigned
	var seen []api.Template
	for n, line := range all {
		if _, e := p.w.Do(appends(line)); e != api.OK {
			t.Fatalf("%q: error %d", line, e)
		}
		a, _ := p.w.Engine().Assigned(n)
		first = append(first, a)
		if got := p.rendered(n); got != line {
			t.Fatalf("line %d is %q, want %q", n, got, line)
		}
		if n%20 == 19 {
			p.w.Run([]step{syncs, seals, compacts, seals}[n/20%4], seals, compacts)
		}
		if n%100 == 99 {
			p.w.Run(seals, crashes(), opens)
		}
		// No template that there was has changed.
		list := p.w.Engine().List()
		for id, was := range seen {
			if id >= len(list) || !part.Same(list[id], was) {
				t.Fatalf("behind line %d: template %d is no more %v", n, id, was)
			}
		}
		seen = list
	}
	for n, line := range all {
		got, e := p.w.Engine().Line(n)
		a, _ := p.w.Engine().Assigned(n)
		if e != api.OK || got != line || p.rendered(n) != line || a.ID != first[n].ID || !slices.Equal(a.Vars, first[n].Vars) {
			t.Fatalf("line %d: error %d, %q, by %v, want %q, by %v", n, e, got, a, line, first[n])
		}
	}
	if len(seen) < 30 || p.w.Engine().Count() != len(all) {
		t.Errorf("%d templates of %d lines are too few to tell anything", len(seen), p.w.Engine().Count())
	}
}

package scan_test

import (
	"fmt"
	"math/rand"
	"slices"
	"testing"

	"winnower/api"
	"winnower/dfa"
	"winnower/glush"
	"winnower/regex"
	"winnower/scan"
)

// build is the automaton of a text's expression.
func build(t *testing.T, s string) api.Dfa {
	t.Helper()
	r, at, e := regex.Parse(s)
	if e != api.OK {
		t.Fatalf("Parse(%q): error %d at %d", s, e, at)
	}
	g, e := glush.Of(r)
	if e != api.OK {
		t.Fatalf("Of(%q): error %d", s, e)
	}
	d, e := dfa.Build(g)
	if e != api.OK {
		t.Fatalf("Build(%q): error %d", s, e)
	}
	return d
}

// compact is the table of an automaton that may be.
func compact(t *testing.T, d api.Dfa) scan.Table {
	t.Helper()
	table, e := scan.Compact(d)
	if e != api.OK {
		t.Fatalf("Compact of %d states: error %d", len(d.Next), e)
	}
	return table
}

// tables is the tables of texts' expressions.
func tables(t *testing.T, l ...string) []scan.Table {
	t.Helper()
	var list []scan.Table
	for _, s := range l {
		list = append(list, compact(t, build(t, s)))
	}
	return list
}

// arrow is a state that leads by a byte to another.
type arrow struct {
	from int
	b    byte
	to   int
}

// hand is an automaton put together by hand: so many states, that lead nowhere but by arrows, and those at which one may end.
func hand(n int, arrows []arrow, ends ...int) api.Dfa {
	d := api.Dfa{Next: make([][256]int, n), Ends: make([]bool, n)}
	for i := range d.Next {
		for b := range d.Next[i] {
			d.Next[i][b] = -1
		}
	}
	for _, a := range arrows {
		d.Next[a.from][a.b] = a.to
	}
	for _, state := range ends {
		d.Ends[state] = true
	}
	return d
}

// anyDfa is an automaton by chance, of few states that lead by few bytes.
func anyDfa(r *rand.Rand) api.Dfa {
	n := 1 + r.Intn(6)
	var arrows []arrow
	for from := range n {
		for _, b := range []byte{'a', 'b', 'c', 0, 255} {
			if r.Intn(4) > 0 {
				arrows = append(arrows, arrow{from, b, r.Intn(n)})
			}
		}
	}
	d := hand(n, arrows)
	for state := range n {
		d.Ends[state] = r.Intn(3) == 0
	}
	return d
}

// tell is a table in words.
func tell(table scan.Table) string {
	return fmt.Sprint(table.Class, table.Next, table.Ends)
}

// wantsTable holds a table against its automaton in plain words.
func wantsTable(t *testing.T, what any, d api.Dfa) {
	t.Helper()
	var want scan.Table
	classes := map[string]int{}
	want.Next = make([][]int, len(d.Next))
	for b := range 256 {
		var column []int
		for _, row := range d.Next {
			column = append(column, row[b])
		}
		key := fmt.Sprint(column)
		if _, met := classes[key]; !met {
			classes[key] = len(classes)
			for state := range want.Next {
				want.Next[state] = append(want.Next[state], column[state])
			}
		}
		want.Class[b] = classes[key]
	}
	want.Ends = d.Ends
	got, e := scan.Compact(d)
	if e != api.OK || tell(got) != tell(want) {
		t.Errorf("Compact of %v: error %d, %s, want %s", what, e, tell(got), tell(want))
	}
}

// plainLongest is the greatest place, each asked for itself; slow on long texts.
func plainLongest(d api.Dfa, s string, at int) int {
	if at < 0 || at > len(s) {
		return -1
	}
	for to := len(s); to >= at; to-- {
		if dfa.Ends(d, s[at:to]) {
			return to
		}
	}
	return -1
}

// wantsLongest holds what an automaton and its table tell.
func wantsLongest(t *testing.T, d api.Dfa, s string, at, want int) {
	t.Helper()
	if got := scan.Longest(d, s, at); got != want {
		t.Errorf("Longest(%q, %d) = %d, want %d", s, at, got, want)
	}
	if got := compact(t, d).Longest(s, at); got != want {
		t.Errorf("Longest(%q, %d) of a Table = %d, want %d", s, at, got, want)
	}
}

// plainFirst is the first of all, by what each tells.
func plainFirst(s string, at int, l ...scan.Table) (int, int) {
	var ends []int
	for _, table := range l {
		ends = append(ends, table.Longest(s, at))
	}
	if at < 0 || len(l) == 0 || slices.Max(ends) <= at {
		return -1, at
	}
	return slices.Index(ends, slices.Max(ends)), slices.Max(ends)
}

// anyText is a text by chance, of few bytes.
func anyText(r *rand.Rand, most int) string {
	b := make([]byte, r.Intn(most+1))
	for i := range b {
		b[i] = "aabbc\x00\xffz"[r.Intn(8)]
	}
	return string(b)
}

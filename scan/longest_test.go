package scan_test

import (
	"math"
	"math/rand"
	"slices"
	"strings"
	"sync"
	"testing"

	"winnower/scan"
)

// P11.1: the example.
func TestExample(t *testing.T) {
	wantsLongest(t, build(t, "a*"), "aab", 0, 2)
}

// P11.1: at 0, in the midst, at the end, beside it; nothing, the empty text, a shorter and a longer one.
func TestLongest(t *testing.T) {
	for _, at := range []struct {
		re, s    string
		at, want int
	}{
		{"a*", "aab", 1, 2}, {"a*", "aab", 2, 2}, {"a*", "aab", 3, 3}, {"a*", "aab", 4, -1}, {"a*", "aab", -1, -1}, {"a*", "aab", 1000, -1}, {"a*", "aab", math.MaxInt, -1}, {"a*", "aab", math.MinInt, -1},
		{"", "", 0, 0}, {"", "", 1, -1}, {"", "", -1, -1}, {"", "ab", 0, 0}, {"", "ab", 1, 1}, {"", "ab", 2, 2}, {"", "ab", 3, -1},
		{"a", "", 0, -1}, {"a", "a", 0, 1}, {"a", "a", 1, -1}, {"a", "a", 2, -1}, {"a", "ba", 0, -1}, {"a", "ba", 1, 2}, {"a", "aaa", 1, 2},
		{"a*", "b", 0, 0}, {"a*", "ba", 0, 0}, {"a+", "b", 0, -1},
		{"a|ab", "ab", 0, 2}, {"a|ab", "ac", 0, 1}, {"ab|a", "abb", 0, 2}, {"a|abc", "abc", 0, 3}, {"a|abc", "xabcx", 1, 4},
		// The longer one breaks off.
		{"a|abc", "abd", 0, 1}, {"a|abc", "ab", 0, 1}, {"a(bcd)*", "abcdbcabcd", 0, 4}, {"a*|a*b{4}", "aaabbb", 0, 3}, {"(abc)?", "abd", 0, 0}, {"abc", "abd", 0, -1}, {"abc", "ab", 0, -1},
		{"[0-9]+(\\.[0-9]+)?", "3.x", 0, 1}, {"[0-9]+(\\.[0-9]+)?", "3.14", 0, 4}, {"[0-9]+(\\.[0-9]+)?", "3.14.15", 0, 4},
		{".", "\x00", 0, 1}, {".", "\xff\xff", 1, 2}, {"\\xff*", "\xff\xff\xfe", 0, 2}, {"\\x00+", "\x00\x00\x01", 0, 2},
		{".*", "abc", 0, 3}, {".*a", "bab", 0, 2}, {"(a|b)*abb", "ababbab", 0, 5}, {"(a|b)*abb", "ababbabb", 0, 8},
	} {
		wantsLongest(t, build(t, at.re), at.s, at.at, at.want)
	}
	long := strings.Repeat("ab", 100000)
	wantsLongest(t, build(t, "(ab)*"), long, 0, 200000)
	wantsLongest(t, build(t, "(ab)*"), long, 199998, 200000)
	wantsLongest(t, build(t, "(ab)*c|a"), long, 0, 1)
}

// P11.1: what leads on to no end, or back to one.
func TestLongestByHand(t *testing.T) {
	d := hand(4, []arrow{{0, 'a', 1}, {1, 'a', 2}, {2, 'a', 0}, {1, 'b', 3}, {3, 'b', 3}}, 2)
	for s, want := range map[string]int{"": -1, "a": -1, "aa": 2, "aaa": 2, "aaaa": 2, "aaaaa": 5, "aaaaaaaa": 8, "ab": -1, "abbbb": -1, "aaaabbbb": 2} {
		wantsLongest(t, d, s, 0, want)
	}
	d.Ends[0] = true
	for s, want := range map[string]int{"": 0, "a": 0, "aa": 2, "aaa": 3, "aaaa": 3, "aaaabbb": 3, "b": 0} {
		wantsLongest(t, d, s, 0, want)
	}
	none := hand(3, []arrow{{0, 'a', 1}, {1, 'a', 0}})
	wantsLongest(t, none, "aaa", 0, -1)
	wantsLongest(t, none, "", 0, -1)
}

// P11.1: a Table without states.
func TestNoStates(t *testing.T) {
	for _, table := range []scan.Table{{}, {Next: [][]int{}, Ends: []bool{}}, {Class: [256]int{'a': 3}}} {
		for at := -1; at <= 3; at++ {
			if got := table.Longest("aa", at); got != -1 {
				t.Errorf("Longest at %d: %d", at, got)
			}
		}
		if got := table.Longest("", 0); got != -1 {
			t.Error(got)
		}
		if n, end := scan.First("aa", 1, table, table); n != -1 || end != 1 {
			t.Errorf("First: %d, %d", n, end)
		}
	}
}

// P11.1, P11.3: by chance, at each place.
func TestLongestByChance(t *testing.T) {
	r := rand.New(rand.NewSource(112))
	for range 1000 {
		d := anyDfa(r)
		table := compact(t, d)
		s := anyText(r, 10)
		for at := -2; at <= len(s)+2; at++ {
			want := plainLongest(d, s, at)
			if got := scan.Longest(d, s, at); got != want {
				t.Errorf("Longest(%q, %d) = %d, want %d", s, at, got, want)
			}
			if got := table.Longest(s, at); got != want {
				t.Errorf("Longest(%q, %d) of a Table = %d, want %d", s, at, got, want)
			}
		}
	}
}

// P11.2
func TestFirst(t *testing.T) {
	for _, at := range []struct {
		what     string
		re       []string
		s        string
		at       int
		want, to int
	}{
		{"none", nil, "ab", 0, -1, 0},
		{"none in the midst", nil, "ab", 1, -1, 1},
		{"one", []string{"a*"}, "aab", 0, 0, 2},
		{"one in the midst", []string{"a*"}, "aab", 1, 0, 2},
		{"one that has only the empty text", []string{"a*"}, "aab", 2, -1, 2},
		{"one at the end", []string{"a*"}, "aab", 3, -1, 3},
		{"one that has nothing", []string{"c"}, "aab", 1, -1, 1},
		{"the first is the longest", []string{"ab", "a"}, "ab", 0, 0, 2},
		{"the last is the longest", []string{"b", "a", "ab"}, "ab", 0, 2, 2},
		{"one in the midst is the longest", []string{"a", "a+", "aa", "b"}, "aaab", 0, 1, 3},
		{"alike: the first of them", []string{"a", "ab", "a.", "[ab]+"}, "abc", 0, 1, 2},
		{"all alike", []string{"a", "a", "a"}, "aa", 1, 0, 2},
		{"none alike", []string{"", "a*", "b*"}, "c", 0, -1, 0},
		{"none at the end", []string{"", "a*", "."}, "ab", 2, -1, 2},
		{"the empty text is none", []string{"", "b?", "a"}, "a", 0, 2, 1},
		{"the longer one breaks off", []string{"abc", "a", "ab?"}, "abd", 0, 2, 2},
		{"below 0", []string{"a*", "."}, "ab", -1, -1, -1},
		{"far below 0", []string{"a*", "."}, "ab", -5, -1, -5},
		{"the least number", []string{"", "a*", "."}, "ab", math.MinInt, -1, math.MinInt},
		{"behind the end", []string{"", "a*", "."}, "ab", 3, -1, 3},
		{"far behind the end", []string{"a*", "."}, "", 1, -1, 1},
		{"the greatest number", []string{"a*", "."}, "ab", math.MaxInt, -1, math.MaxInt},
	} {
		if n, to := scan.First(at.s, at.at, tables(t, at.re...)...); n != at.want || to != at.to {
			t.Errorf("%s: %d, %d, want %d, %d", at.what, n, to, at.want, at.to)
		}
	}
}

// P11.2: by chance, at each place; what is handed in is left as it is.
func TestFirstByChance(t *testing.T) {
	r := rand.New(rand.NewSource(113))
	for range 1000 {
		var l []scan.Table
		for range r.Intn(5) {
			l = append(l, compact(t, anyDfa(r)))
		}
		s := anyText(r, 8)
		for at := -2; at <= len(s)+2; at++ {
			want, wantTo := plainFirst(s, at, l...)
			if n, to := scan.First(s, at, l...); n != want || to != wantTo {
				t.Errorf("First(%q, %d) of %d = %d, %d, want %d, %d", s, at, len(l), n, to, want, wantTo)
			}
		}
	}
	l := tables(t, "a", "ab", "b*")
	told := []string{tell(l[0]), tell(l[1]), tell(l[2])}
	scan.First("ab", 0, l[:2]...)
	if !slices.Equal(told, []string{tell(l[0]), tell(l[1]), tell(l[2])}) {
		t.Error("what was handed in became", l)
	}
}

// named is a table with a name: what a Table can, it can.
type named struct {
	scan.Table
	name string
}

// longer is whoever tells the longest text that stands at a place.
type longer interface {
	Longest(s string, at int) int
}

// P11.3: a Table's methods are promoted to whoever embeds it.
func TestEmbedded(t *testing.T) {
	n := named{compact(t, build(t, "a*b")), "some a and a b"}
	if got := n.Longest("aabb", 0); got != 3 {
		t.Error(n.name, got)
	}
	for _, l := range []longer{n, &n, n.Table, &n.Table} {
		if got := l.Longest("xab", 1); got != 3 {
			t.Error(got)
		}
		if got := l.Longest("xab", 0); got != -1 {
			t.Error(got)
		}
	}
	if got, to := scan.First("ab", 0, n.Table); got != 0 || to != 2 {
		t.Error(got, to)
	}
	if n.Class['b'] == n.Class['a'] || len(n.Next) != len(n.Ends) {
		t.Error(tell(n.Table))
	}
}

// P11.3, W2: the same whatever was asked before, and by however many at once.
func TestSameWhateverWasAsked(t *testing.T) {
	l := tables(t, "a*b", "(a|b)*abb", "[a-z]+", ".")
	s := "abbaabbxyz ab"
	var want []int
	for at := range len(s) {
		n, to := scan.First(s, at, l...)
		want = append(want, n, to)
	}
	var group sync.WaitGroup
	for from := range 8 {
		group.Go(func() {
			for k := range 2 * len(s) {
				at := (from + k) % len(s)
				if n, to := scan.First(s, at, l...); n != want[2*at] || to != want[2*at+1] {
					t.Errorf("at %d: %d, %d", at, n, to)
				}
			}
		})
	}
	group.Wait()
}

package dfa_test

import (
	"math"
	"strings"
	"testing"

	"winnower/api"
	"winnower/dfa"
)

// P9.1: of how many states, with how many Ends.
func TestIsByCount(t *testing.T) {
	for _, at := range []struct {
		states, ends int
		want         bool
	}{
		{0, 0, false}, {0, 1, false}, {1, 0, false}, {1, 1, true}, {1, 2, false}, {2, 1, false}, {2, 2, true}, {2, 3, false}, {3, 300, false},
		{64, 64, true}, {127, 127, true}, {127, 128, false}, {128, 127, false}, {128, 128, true}, {128, 129, false}, {129, 128, false}, {129, 129, false}, {130, 130, false}, {300, 300, false},
	} {
		d := empties(at.states)
		d.Ends = make([]bool, at.ends)
		if got := dfa.Is(d); got != at.want {
			t.Errorf("Is of %d states, %d Ends: %v", at.states, at.ends, got)
		}
		if len(d.Ends) > 0 {
			d.Ends[0] = true
		}
		if got := dfa.Ends(d, ""); got != at.want {
			t.Errorf("Ends of %d states, %d Ends: %v", at.states, at.ends, got)
		}
	}
	if dfa.Is(api.Dfa{}) || dfa.Is(api.Dfa{Next: [][256]int{}, Ends: []bool{}}) {
		t.Error("Is of no state")
	}
}

// P9.1: each Next is -1 or a state, at each byte of each state.
func TestIsByNext(t *testing.T) {
	for _, n := range []int{1, 2, 3, 127, 128} {
		for _, state := range []int{0, n / 2, n - 1} {
			for _, b := range []int{0, 1, 97, 127, 128, 254, 255} {
				for _, to := range []int{math.MinInt, -129, -2, -1, 0, n / 2, n - 1, n, n + 1, 256, math.MaxInt} {
					d := empties(n)
					d.Ends[0] = true
					d.Next[state][b] = to
					want := to >= -1 && to < n
					if got := dfa.Is(d); got != want {
						t.Errorf("Is of %d states, %d leads by %d to %d: %v", n, state, b, to, got)
					}
					if got := dfa.Ends(d, ""); got != want {
						t.Errorf("Ends of %d states, %d leads by %d to %d: %v", n, state, b, to, got)
					}
				}
			}
		}
	}
}

// P9.1: state by state.
func TestSame(t *testing.T) {
	for _, s := range []string{"", "a", "a*b", "(a|b)*abb", ".{3}", "a{32}a{31}"} {
		d := build(t, s)
		if !dfa.Same(d, d) || !dfa.Same(d, clone(d)) {
			t.Errorf("%s is not itself", s)
		}
		for state := range d.Next {
			for _, b := range []int{0, 97, 255} {
				other := clone(d)
				other.Next[state][b] = (other.Next[state][b]+2)%(len(d.Next)+1) - 1
				if dfa.Same(d, other) || dfa.Same(other, d) {
					t.Errorf("%s: Same, though state %d leads by %d to another", s, state, b)
				}
			}
			other := clone(d)
			other.Ends[state] = !other.Ends[state]
			if dfa.Same(d, other) || dfa.Same(other, d) {
				t.Errorf("%s: Same, though one ends at state %d", s, state)
			}
		}
		more := clone(d)
		more.Next, more.Ends = append(more.Next, empties(1).Next[0]), append(more.Ends, false)
		if dfa.Same(d, more) || dfa.Same(more, d) || !dfa.Same(more, clone(more)) {
			t.Errorf("%s: Same with one state more", s)
		}
	}
	if dfa.Same(empties(1), empties(2)) || dfa.Same(empties(128), empties(127)) || !dfa.Same(empties(128), empties(128)) {
		t.Error("Same of states that lead nowhere")
	}
}

// P9.1: one that was numbered otherwise is another one, though it has the same texts.
func TestSameIsByNumbers(t *testing.T) {
	d := build(t, "a|bc")
	other := clone(d)
	other.Next[0]['a'], other.Next[0]['b'] = d.Next[0]['b'], d.Next[0]['a']
	other.Next[1], other.Next[2] = d.Next[2], d.Next[1]
	other.Ends[1], other.Ends[2] = d.Ends[2], d.Ends[1]
	if dfa.Same(d, other) {
		t.Error("Same, though numbered otherwise")
	}
}

// P9.1: from state 0 by all bytes of a text.
func TestEnds(t *testing.T) {
	// 0 -a-> 1 -b-> 2! -a-> 1, 2 -ff-> 0; 3 is not reached.
	d := empties(4)
	d.Next[0]['a'], d.Next[1]['b'], d.Next[2]['a'], d.Next[2][255], d.Next[3][0] = 1, 2, 1, 0, 2
	d.Ends[2] = true
	for s, want := range map[string]bool{
		"": false, "a": false, "b": false, "ab": true, "aba": false, "abab": true, "ab\xff": false, "ab\xffab": true, "abb": false, "aab": false, "abbab": false, "xab": false, "abx": false, "ab\x00": false, "a\x00b": false, "\x00": false,
	} {
		if got := dfa.Ends(d, s); got != want {
			t.Errorf("Ends(%q) = %v", s, got)
		}
	}
	// To lead nowhere in the midst is for good, whatever comes.
	if dfa.Ends(d, "b"+strings.Repeat("ab", 100)) || !dfa.Ends(d, strings.Repeat("ab", 100000)) {
		t.Error("long texts")
	}
	d.Ends[0] = true
	if !dfa.Ends(d, "") || dfa.Ends(d, "b") || !dfa.Ends(d, "ab\xff") {
		t.Error("the empty text")
	}
}

// P9.1: one that may not be has no text, wherever it errs.
func TestEndsOfWhatMayNotBe(t *testing.T) {
	if dfa.Ends(api.Dfa{}, "") || dfa.Ends(api.Dfa{}, "a") || dfa.Ends(api.Dfa{Ends: []bool{true}}, "") || dfa.Ends(api.Dfa{Next: make([][256]int, 1)}, "") {
		t.Error("of no state")
	}
	d := build(t, "a*")
	for _, s := range []string{"", "a", "aaa"} {
		if !dfa.Ends(d, s) {
			t.Error(s)
		}
	}
	spoilt := []api.Dfa{clone(d), clone(d), clone(d), clone(d), clone(d)}
	spoilt[0].Next[1][255] = -2
	spoilt[1].Next[1][0] = 2
	spoilt[2].Ends = append(spoilt[2].Ends, true)
	spoilt[3].Ends = spoilt[3].Ends[:1]
	spoilt[4].Next = append(spoilt[4].Next, empties(200).Next...)
	for i, d := range spoilt {
		for _, s := range []string{"", "a", "aaa", "\xff", "a\xff", "a\x00"} {
			if dfa.Ends(d, s) {
				t.Errorf("%d: %q ends", i, s)
			}
		}
	}
}

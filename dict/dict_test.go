package dict_test

import (
	"math/rand"
	"slices"
	"sync"
	"testing"

	"winnower/api"
	"winnower/dict"
)

// The example: P17.1.
func TestExample(t *testing.T) {
	if l := dict.Words("b", "a", "b"); !slices.Equal(l, []string{"a", "b"}) {
		t.Errorf("%q", l)
	}
}

// P17.1: each once, rising byte by byte.
func TestWords(t *testing.T) {
	for _, at := range []struct{ l, want []string }{
		{nil, nil},
		{[]string{}, nil},
		{[]string{"a"}, []string{"a"}},
		{[]string{""}, []string{""}},
		{[]string{"", "", ""}, []string{""}},
		{[]string{"a", "a", "a", "a"}, []string{"a"}},
		{[]string{"abc", "ab", "", "abcd", "a", "ab"}, []string{"", "a", "ab", "abc", "abcd"}},
		{[]string{"b", "ba", "a", "aa", "B", "~"}, []string{"B", "a", "aa", "b", "ba", "~"}},
		{[]string{"10", "9", "010", "1"}, []string{"010", "1", "10", "9"}},
		{[]string{"\xff", "\x80", "\x7f", "\x00", "a\x00", "a", "\xff\xff", "é", "z"}, []string{"\x00", "a", "a\x00", "z", "\x7f", "\x80", "é", "\xff", "\xff\xff"}},
		{[]string{"z", "y", "x", "z", "x", "y"}, []string{"x", "y", "z"}},
	} {
		if got := dict.Words(at.l...); !slices.Equal(got, at.want) {
			t.Errorf("Words(%q) = %q, want %q", at.l, got, at.want)
		}
		wantsEncode(t, at.l...)
	}
	// More and longer texts than Encode takes are words all the same.
	if got := dict.Words(several(most + 10)...); len(got) != most+10 || !slices.IsSorted(got) {
		t.Errorf("%d words", len(got))
	}
	if got := dict.Words(long(longest+1), "y", long(longest+1)); !slices.Equal(got, []string{long(longest + 1), "y"}) {
		t.Errorf("%.100q", got)
	}
}

// P17.1: to the byte.
func TestEncode(t *testing.T) {
	for _, at := range []struct {
		l    []string
		want string
	}{
		{nil, "\x00" + "\x02\x00\x00"},
		{[]string{}, "\x00" + "\x02\x00\x00"},
		{[]string{""}, "\x01\x00" + "\x03\x00\x01\x00"},
		{[]string{"b", "a", "b"}, "\x02\x01a\x01b" + "\x05\x00\x03\x01\x00\x01"},
		{[]string{"a", "a", "a"}, "\x01\x01a" + "\x04\x02\x01\x03\x00"},
		{[]string{"up", "up", "up", "down", ""}, "\x03\x00\x04down\x02up" + "\x07\x00\x05\x02\x02\x02\x01\x00"},
		{[]string{"a", "\xff\x00", "a"}, "\x02\x01a\x02\xff\x00" + "\x05\x00\x03\x00\x01\x00"},
		{[]string{long(130)}, "\x01\x82\x01" + long(130) + "\x03\x00\x01\x00"},
	} {
		if b, e := dict.Encode(at.l...); e != api.OK || string(b) != at.want {
			t.Errorf("Encode(%q): error %d, %q, want %q", at.l, e, b, at.want)
		}
		wantsEncode(t, at.l...)
	}
}

// P17.1: the places are laid in the shortest way: each of the three.
func TestEncodePlaces(t *testing.T) {
	rising := several(300)
	slices.Sort(rising)
	wantsEncode(t, rising...)
	b, _ := dict.Encode(rising...)
	if !slices.Equal(b, laid(rising, append([]byte{1, 0xac, 2, 0}, slices.Repeat([]byte{2}, 299)...))) {
		t.Errorf("% x", b[len(b)-310:])
	}
	wantsEncode(t, slices.Concat(slices.Repeat([]string{"a"}, 50), slices.Repeat([]string{"b"}, 70))...)
	b, _ = dict.Encode(slices.Concat(slices.Repeat([]string{"a"}, 50), slices.Repeat([]string{"b"}, 70))...)
	if string(b) != "\x02\x01a\x01b\x06\x02\x02\x32\x00\x46\x01" {
		t.Errorf("% x", b)
	}
}

// P17.1: at most 2^15 texts.
func TestCounts(t *testing.T) {
	for _, n := range []int{0, 1, 2, most - 1, most} {
		wantsEncode(t, make([]string, n)...)
		wantsEncode(t, several(n)...)
	}
	for _, n := range []int{most + 1, most + 2, 2 * most} {
		wantsNone(t, n, make([]string, n)...)
		wantsNone(t, n, several(n)...)
	}
}

// P17.1: each of at most 2^12 bytes.
func TestLengths(t *testing.T) {
	for _, n := range []int{0, 1, 255, 256, longest - 1, longest} {
		wantsEncode(t, long(n))
		wantsEncode(t, "a", long(n), "z", long(n))
	}
	for _, n := range []int{longest + 1, longest + 2, 2 * longest, 1 << 20} {
		wantsNone(t, n, long(n))
		wantsNone(t, n, "a", long(n), "b")
		wantsNone(t, n, long(n), "a", "b")
		wantsNone(t, n, "a", "b", long(n))
	}
}

// P17.1, P17.2: texts by chance.
func TestByChance(t *testing.T) {
	r := rand.New(rand.NewSource(171))
	for range 3000 {
		wantsEncode(t, byChance(r)...)
	}
}

// spoil writes over all of a list, its spare room too.
func spoil[E any](l []E, by E) {
	for i := range l[:cap(l)] {
		l[:cap(l)][i] = by
	}
}

// P17.2: what is handed in is neither changed nor kept; what is answered is new memory.
func TestMemory(t *testing.T) {
	for _, l := range [][]string{{"b", "a", "b", "c", "a", "a"}, {"a"}, {"z", "y"}, {}} {
		in := append(make([]string, 0, 20), l...)
		in[:20][len(l)] = "spare"
		b, _ := dict.Encode(in...)
		words := dict.Words(in...)
		if !slices.Equal(in, l) || in[:20][len(l)] != "spare" {
			t.Errorf("%q changed to %q", l, in[:20])
		}
		spoil(in, "spoilt")
		want := encode(l)
		if !slices.Equal(b, want) || !slices.Equal(words, wordsOf(l)) {
			t.Errorf("%q became %q, %q", l, b, words)
		}
		otherWords, other := dict.Words(l...), encode(l)
		spoil(words, "spoilt")
		spoil(b, 9)
		again, _ := dict.Encode(l...)
		if !slices.Equal(otherWords, wordsOf(l)) || !slices.Equal(dict.Words(l...), wordsOf(l)) || !slices.Equal(again, other) {
			t.Errorf("%q: %q, then %q", l, otherWords, again)
		}
		bytes := append(make([]byte, 0, 80), want...)
		bytes[:80][len(want)] = 77
		got, _ := dict.Decode(bytes)
		if !slices.Equal(bytes, want) || bytes[:80][len(want)] != 77 {
			t.Errorf("%q changed to %q", want, bytes[:80])
		}
		spoil(bytes, 'x')
		two, _ := dict.Decode(want)
		if !slices.Equal(got, l) {
			t.Errorf("%q became %q", l, got)
		}
		spoil(got, "spoilt")
		if again, _ := dict.Decode(want); !slices.Equal(two, l) || !slices.Equal(again, l) {
			t.Errorf("%q: %q, then %q", l, two, again)
		}
	}
}

// W2: what is told does not depend on what was asked ahead, nor on who asks meanwhile.
func TestTogether(t *testing.T) {
	var all sync.WaitGroup
	for seed := range 4 {
		all.Go(func() {
			r := rand.New(rand.NewSource(int64(seed)))
			for range 200 {
				wantsEncode(t, byChance(r)...)
				wantsNone(t, "too long", long(longest+1))
				wantsBad(t, "nothing", nil)
			}
		})
	}
	all.Wait()
}

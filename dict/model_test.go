package dict_test

import (
	"fmt"
	"math/rand"
	"slices"
	"strings"
	"testing"

	"winnower/api"
	"winnower/dict"
	"winnower/pack"
)

// How many texts, and how many bytes of one, there may be.
const (
	most    = 1 << 15
	longest = 1 << 12
)

// nums is numbers as bytes: seven digits each, the lowest first.
func nums(l ...int) []byte {
	var b []byte
	for _, n := range l {
		for ; n >= 128; n /= 128 {
			b = append(b, byte(n%128+128))
		}
		b = append(b, byte(n))
	}
	return b
}

// row is bytes behind their length.
func row[S string | []byte](s S) []byte { return append(nums(len(s)), s...) }

// laid is words, and places as they are laid, whether they may be or not.
func laid(words []string, places []byte) []byte {
	b := nums(len(words))
	for _, s := range words {
		b = append(b, row(s)...)
	}
	return append(b, row(places)...)
}

// best is places in the shortest way.
func best(places ...int) []byte {
	b, _ := pack.Best(places...)
	return b
}

// less holds two texts against each other byte by byte.
func less(a, b string) bool {
	for i := range min(len(a), len(b)) {
		if a[i] != b[i] {
			return a[i] < b[i]
		}
	}
	return len(a) < len(b)
}

// wordsOf is each text once, rising: each is laid where it belongs.
func wordsOf(l []string) []string {
	seen := map[string]bool{}
	var words []string
	for _, s := range l {
		if !seen[s] {
			seen[s] = true
			words = append(words, s)
		}
	}
	slices.SortFunc(words, func(a, b string) int {
		if less(a, b) {
			return -1
		}
		return 1
	})
	return words
}

// encode is what Encode tells, in plain words.
func encode(l []string) []byte {
	words := wordsOf(l)
	place := map[string]int{}
	for k, s := range words {
		place[s] = k
	}
	var places []int
	for _, s := range l {
		places = append(places, place[s])
	}
	return laid(words, best(places...))
}

// take takes a number in its shortest way.
func take(b []byte) (n int, rest []byte, ok bool) {
	for i := 0; i < len(b) && i < 9; i++ {
		n += int(b[i]%128) << (7 * i)
		if b[i] < 128 {
			return n, b[i+1:], n <= 1<<62 && (i == 0 || b[i] > 0)
		}
	}
	return 0, nil, false
}

// takeRow takes bytes behind their length.
func takeRow(b []byte) (s string, rest []byte, ok bool) {
	n, rest, ok := take(b)
	if !ok || n > len(rest) {
		return "", nil, false
	}
	return string(rest[:n]), rest[n:], true
}

// decode is what Decode tells, look by look.
func decode(b []byte) ([]string, bool) {
	n, b, ok := take(b)
	if !ok || n > len(b) {
		return nil, false
	}
	var words []string
	for k := range n {
		s, rest, ok := takeRow(b)
		if !ok || len(s) > longest || k > 0 && !less(words[k-1], s) {
			return nil, false
		}
		words, b = append(words, s), rest
	}
	packed, b, ok := takeRow(b)
	if !ok || len(b) > 0 {
		return nil, false
	}
	places, e := pack.Decode([]byte(packed))
	if e != api.OK || packed != string(best(places...)) {
		return nil, false
	}
	named := map[int]bool{}
	var l []string
	for _, k := range places {
		if k >= n {
			return nil, false
		}
		named[k] = true
		l = append(l, words[k])
	}
	return l, len(named) == n
}

// short is a list, or how it begins, to be told.
func short[E string | byte](l []E) string {
	if len(l) > 20 {
		return fmt.Sprintf("%.400q and so on, %d", fmt.Sprint(l[:20]), len(l))
	}
	return fmt.Sprintf("%.400q", l)
}

// wantsEncode holds Encode and Words against plain words, and the way back.
func wantsEncode(t *testing.T, l ...string) {
	t.Helper()
	if got, want := dict.Words(l...), wordsOf(l); !slices.Equal(got, want) {
		t.Errorf("Words of %s: %s, want %s", short(l), short(got), short(want))
	}
	b, e := dict.Encode(l...)
	if want := encode(l); e != api.OK || !slices.Equal(b, want) {
		t.Errorf("Encode of %s: error %d, %s, want %s", short(l), e, short(b), short(want))
		return
	}
	wantsDecoded(t, "of Encode", b, l)
}

func wantsNone(t *testing.T, what any, l ...string) {
	t.Helper()
	if b, e := dict.Encode(l...); e != api.ErrArg || len(b) > 0 {
		t.Errorf("%v: Encode of %s: error %d, %s", what, short(l), e, short(b))
	}
}

func wantsDecoded(t *testing.T, what any, b []byte, want []string) {
	t.Helper()
	if l, e := dict.Decode(b); e != api.OK || !slices.Equal(l, want) {
		t.Errorf("%v: Decode(%s): error %d, %s, want %s", what, short(b), e, short(l), short(want))
	}
}

func wantsBad(t *testing.T, what any, b []byte) {
	t.Helper()
	if l, e := dict.Decode(b); e != api.ErrForm || len(l) > 0 {
		t.Errorf("%v: Decode(%s): error %d, %s", what, short(b), e, short(l))
	}
	if l, ok := decode(b); ok {
		t.Errorf("%v: in plain words %s is %s", what, short(b), short(l))
	}
}

// wantsDecode holds Decode against plain words.
func wantsDecode(t *testing.T, what any, b []byte) {
	t.Helper()
	if l, ok := decode(b); ok {
		wantsDecoded(t, what, b, l)
	} else {
		wantsBad(t, what, b)
	}
}

// byChance is texts of which some are alike.
func byChance(r *rand.Rand) []string {
	var l []string
	for range r.Intn(10) {
		s := ""
		for range r.Intn(4) {
			s += []string{"a", "b", "\x00", "\xff", "é"}[r.Intn(5)]
		}
		l = append(l, s)
	}
	return l
}

// several is texts, each another one, in no order.
func several(n int) []string {
	var l []string
	for k := range n {
		l = append(l, fmt.Sprint(k*7919%n))
	}
	return l
}

func long(n int) string { return strings.Repeat("x", n) }

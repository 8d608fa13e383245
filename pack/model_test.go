package pack_test

import (
	"fmt"
	"math/rand"
	"slices"
	"testing"

	"winnower/api"
	"winnower/pack"
)

// The least and the greatest that may be, and how many.
const (
	greatest = 1 << 40
	most     = 1 << 15
)

// way is one of the ways in which numbers are laid, and the same in plain words.
type way struct {
	name  string
	lays  func(l ...int) ([]byte, api.Errno)
	words func(l []int) []byte
}

func ways() []way {
	return []way{
		{"Plain", pack.Plain, plainOf},
		{"Delta", pack.Delta, deltaOf},
		{"Runs", pack.Runs, runsOf},
		{"Best", pack.Best, bestOf},
	}
}

// nums is numbers as bytes: seven digits each, the lowest first.
func nums(l ...int) []byte {
	var b []byte
	for _, n := range l {
		for ; n >= 128; n /= 128 {
			b = append(b, byte(n%128+128))
		}
		b = append(b, byte(n))
	}
	return b
}

func plainOf(l []int) []byte {
	return append(nums(0, len(l)), nums(l...)...)
}

func deltaOf(l []int) []byte {
	b := nums(1, len(l))
	for k, n := range l {
		ahead := 0
		if k > 0 {
			ahead = l[k-1]
		}
		if n >= ahead {
			b = append(b, nums(2*(n-ahead))...)
		} else {
			b = append(b, nums(2*(ahead-n)-1)...)
		}
	}
	return b
}

func runsOf(l []int) []byte {
	var b []byte
	rows := 0
	for from := 0; from < len(l); rows++ {
		end := from
		for end < len(l) && l[end] == l[from] {
			end++
		}
		b = append(b, nums(end-from, l[from])...)
		from = end
	}
	return append(nums(2, rows), b...)
}

func bestOf(l []int) []byte {
	b := plainOf(l)
	if d := deltaOf(l); len(d) < len(b) {
		b = d
	}
	if r := runsOf(l); len(r) < len(b) {
		b = r
	}
	return b
}

// take takes a number in its shortest way.
func take(b []byte) (n int, rest []byte, ok bool) {
	for i := 0; i < len(b) && i < 9; i++ {
		n += int(b[i]%128) << (7 * i)
		if b[i] < 128 {
			return n, b[i+1:], n <= 1<<62 && (i == 0 || b[i] > 0)
		}
	}
	return 0, nil, false
}

// decode is what Decode tells, in plain words: all numbers are taken, and none is left.
func decode(b []byte) ([]int, bool) {
	var all []int
	for len(b) > 0 {
		n, rest, ok := take(b)
		if !ok {
			return nil, false
		}
		all = append(all, n)
		b = rest
	}
	if len(all) < 2 {
		return nil, false
	}
	kind, count, all := all[0], all[1], all[2:]
	switch kind {
	case 0:
		return all, count == len(all) && may(all)
	case 1:
		last := 0
		for k, n := range all {
			if n%2 == 0 {
				last += n / 2
			} else {
				last -= (n + 1) / 2
			}
			if last < 0 || last > greatest {
				return nil, false
			}
			all[k] = last
		}
		return all, count == len(all) && may(all)
	case 2:
		if count > len(all) || 2*count != len(all) {
			return nil, false
		}
		var l []int
		for k := 0; k < len(all); k += 2 {
			if all[k] < 1 || all[k] > most-len(l) || k > 0 && all[k+1] == all[k-1] {
				return nil, false
			}
			l = append(l, slices.Repeat(all[k+1:k+2], all[k])...)
		}
		return l, may(l)
	}
	return nil, false
}

func may(l []int) bool {
	for _, n := range l {
		if n < 0 || n > greatest {
			return false
		}
	}
	return len(l) <= most
}

// short is a row of numbers, or how it begins, to be told.
func short[E any](l []E) string {
	if len(l) > 20 {
		return fmt.Sprintf("%v and so on, %d", l[:20], len(l))
	}
	return fmt.Sprint(l)
}

// wantsLaid holds each way against plain words, and the way back.
func wantsLaid(t *testing.T, l ...int) {
	t.Helper()
	for _, w := range ways() {
		b, e := w.lays(l...)
		if want := w.words(l); e != api.OK || !slices.Equal(b, want) {
			t.Errorf("%s of %s: error %d, %s, want %s", w.name, short(l), e, short(b), short(want))
			continue
		}
		wantsDecoded(t, w.name, b, l)
	}
}

// wantsNone holds that no way lays these.
func wantsNone(t *testing.T, l ...int) {
	t.Helper()
	for _, w := range ways() {
		if b, e := w.lays(l...); e != api.ErrArg || len(b) > 0 {
			t.Errorf("%s of %s: error %d, %s", w.name, short(l), e, short(b))
		}
	}
}

func wantsDecoded(t *testing.T, what any, b []byte, want []int) {
	t.Helper()
	if l, e := pack.Decode(b); e != api.OK || !slices.Equal(l, want) {
		t.Errorf("%v: Decode(%s): error %d, %s, want %s", what, short(b), e, short(l), short(want))
	}
}

func wantsBad(t *testing.T, what any, b []byte) {
	t.Helper()
	if l, e := pack.Decode(b); e != api.ErrForm || len(l) > 0 {
		t.Errorf("%v: Decode(%s): error %d, %s", what, short(b), e, short(l))
	}
	if l, ok := decode(b); ok {
		t.Errorf("%v: in plain words %s is %s", what, short(b), short(l))
	}
}

// wantsDecode holds Decode against plain words.
func wantsDecode(t *testing.T, what any, b []byte) {
	t.Helper()
	if l, ok := decode(b); ok {
		wantsDecoded(t, what, b, l)
	} else {
		wantsBad(t, what, b)
	}
}

// byChance is numbers of which neighbours are often alike, or near.
func byChance(r *rand.Rand) []int {
	var l []int
	n := 0
	for range r.Intn(12) {
		switch r.Intn(5) {
		case 0:
			n = r.Intn(1 << r.Intn(41))
		case 1:
			n = min(n+r.Intn(70), greatest)
		case 2:
			n = max(n-r.Intn(70), 0)
		}
		l = append(l, n)
	}
	return l
}

// upTo is the numbers from 0 on.
func upTo(n int) []int {
	var l []int
	for k := range n {
		l = append(l, k)
	}
	return l
}

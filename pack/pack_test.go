package pack_test

import (
	"math"
	"math/rand"
	"slices"
	"sync"
	"testing"

	"winnower/api"
	"winnower/pack"
)

// The example: P16.1.
func TestExample(t *testing.T) {
	b, e := pack.Best(7, 7, 7, 7, 7)
	if e != api.OK || !slices.Equal(b, []byte{2, 1, 5, 7}) {
		t.Errorf("error %d, %v", e, b)
	}
}

// P16.1: to the byte.
func TestPlain(t *testing.T) {
	for _, at := range []struct {
		l    []int
		want string
	}{
		{nil, "\x00\x00"},
		{[]int{}, "\x00\x00"},
		{[]int{0}, "\x00\x01\x00"},
		{[]int{127, 128, 300}, "\x00\x03\x7f\x80\x01\xac\x02"},
		{[]int{5, 5, 4}, "\x00\x03\x05\x05\x04"},
		{[]int{greatest}, "\x00\x01\x80\x80\x80\x80\x80\x20"},
	} {
		if b, e := pack.Plain(at.l...); e != api.OK || string(b) != at.want {
			t.Errorf("Plain(%v): error %d, %x, want %x", at.l, e, b, at.want)
		}
		wantsLaid(t, at.l...)
	}
}

// P16.1: to the byte; the first number, numbers that rise, fall, stay, by 1 and by 2^40.
func TestDelta(t *testing.T) {
	for _, at := range []struct {
		l    []int
		want string
	}{
		{nil, "\x01\x00"},
		{[]int{0}, "\x01\x01\x00"},
		{[]int{1}, "\x01\x01\x02"},
		{[]int{64}, "\x01\x01\x80\x01"},
		{[]int{greatest}, "\x01\x01\x80\x80\x80\x80\x80\x40"},
		{[]int{5, 6, 7}, "\x01\x03\x0a\x02\x02"},
		{[]int{7, 6, 5}, "\x01\x03\x0e\x01\x01"},
		{[]int{7, 7, 7}, "\x01\x03\x0e\x00\x00"},
		{[]int{0, 64, 0}, "\x01\x03\x00\x80\x01\x7f"},
		{[]int{10, 5, 20}, "\x01\x03\x14\x09\x1e"},
		{[]int{0, greatest, 0}, "\x01\x03\x00\x80\x80\x80\x80\x80\x40\xff\xff\xff\xff\xff\x3f"},
		{[]int{greatest, greatest}, "\x01\x02\x80\x80\x80\x80\x80\x40\x00"},
		{[]int{1, 0, 1}, "\x01\x03\x02\x01\x02"},
	} {
		if b, e := pack.Delta(at.l...); e != api.OK || string(b) != at.want {
			t.Errorf("Delta(%v): error %d, %x, want %x", at.l, e, b, at.want)
		}
		wantsLaid(t, at.l...)
	}
}

// P16.1: to the byte; none alike, all alike, rows of alike ones side by side: the longest.
func TestRuns(t *testing.T) {
	for _, at := range []struct {
		l    []int
		want string
	}{
		{nil, "\x02\x00"},
		{[]int{0}, "\x02\x01\x01\x00"},
		{[]int{1, 2, 3}, "\x02\x03\x01\x01\x01\x02\x01\x03"},
		{[]int{9, 9, 9, 9}, "\x02\x01\x04\x09"},
		{[]int{0, 0, 0, 1, 1, 0, 0}, "\x02\x03\x03\x00\x02\x01\x02\x00"},
		{[]int{3, 2, 2, 3}, "\x02\x03\x01\x03\x02\x02\x01\x03"},
		{slices.Repeat([]int{300}, 200), "\x02\x01\xc8\x01\xac\x02"},
		{[]int{greatest, greatest, 0}, "\x02\x02\x02\x80\x80\x80\x80\x80\x20\x01\x00"},
	} {
		if b, e := pack.Runs(at.l...); e != api.OK || string(b) != at.want {
			t.Errorf("Runs(%v): error %d, %x, want %x", short(at.l), e, b, at.want)
		}
		wantsLaid(t, at.l...)
	}
}

// P16.1: the shortest of the three, of alike ones the first.
func TestBest(t *testing.T) {
	for _, at := range []struct {
		l    []int
		want string
		ways string // those that are as short
	}{
		{nil, "\x00\x00", "all"},
		{[]int{0}, "\x00\x01\x00", "Plain and Delta"},
		{[]int{63}, "\x00\x01\x3f", "Plain and Delta"},
		{[]int{64}, "\x00\x01\x40", "Plain"},
		{[]int{3, 3}, "\x00\x02\x03\x03", "all"},
		{[]int{127, 127}, "\x00\x02\x7f\x7f", "Plain and Runs"},
		{[]int{100, 3, 90}, "\x00\x03\x64\x03\x5a", "Plain"},
		{[]int{200, 201, 202}, "\x01\x03\x90\x03\x02\x02", "Delta"},
		{[]int{200, 200}, "\x01\x02\x90\x03\x00", "Delta and Runs"},
		{[]int{128, 128, 128}, "\x02\x01\x03\x80\x01", "Runs"},
		{[]int{7, 7, 7}, "\x02\x01\x03\x07", "Runs"},
		{[]int{200, 199}, "\x01\x02\x90\x03\x01", "Delta"},
		{[]int{5, 5, 9, 9}, "\x00\x04\x05\x05\x09\x09", "all"},
		{[]int{200, 200, 100, 100}, "\x02\x02\x02\xc8\x01\x02\x64", "Runs"},
	} {
		if b, e := pack.Best(at.l...); e != api.OK || string(b) != at.want {
			t.Errorf("Best(%v), where %s are the shortest: error %d, %x, want %x", at.l, at.ways, e, b, at.want)
		}
		wantsLaid(t, at.l...)
	}
}

// P16.1: a number is 0 to 2^40.
func TestNumbers(t *testing.T) {
	for _, n := range []int{0, 1, 127, 128, 1 << 20, greatest - 1, greatest} {
		wantsLaid(t, n)
		wantsLaid(t, n, 0, n)
		wantsLaid(t, n, n, greatest)
	}
	for _, n := range []int{-1, -2, math.MinInt, math.MinInt + 1, -greatest, greatest + 1, greatest + 2, 1 << 41, 1 << 62, math.MaxInt} {
		wantsNone(t, n)
		wantsNone(t, n, 1, 2)
		wantsNone(t, 1, n, 2)
		wantsNone(t, 1, 2, n)
		wantsNone(t, slices.Repeat([]int{n}, 9)...)
	}
}

// P16.1: there are at most 2^15.
func TestCounts(t *testing.T) {
	for _, n := range []int{0, 1, 2, 127, 128, most - 1, most} {
		wantsLaid(t, make([]int, n)...)
		wantsLaid(t, upTo(n)...)
		wantsLaid(t, slices.Repeat([]int{greatest, 0}, n/2)...)
	}
	for _, n := range []int{most + 1, most + 2, 2 * most} {
		wantsNone(t, make([]int, n)...)
		wantsNone(t, upTo(n)...)
	}
}

// P16.1, P16.2: all short rows of a few numbers, and many by chance.
func TestByChance(t *testing.T) {
	rows := [][]int{nil}
	for range 4 {
		var next [][]int
		for _, l := range rows {
			wantsLaid(t, l...)
			for _, n := range []int{0, 1, 63, 64, 128} {
				next = append(next, append(slices.Clone(l), n))
			}
		}
		rows = next
	}
	r := rand.New(rand.NewSource(161))
	for range 3000 {
		wantsLaid(t, byChance(r)...)
	}
}

// spoil writes over all of a list, its spare room too.
func spoil[E any](l []E, by E) {
	for i := range l[:cap(l)] {
		l[:cap(l)][i] = by
	}
}

// P16.2: what is handed in is neither changed nor kept; what is answered is new memory.
func TestMemory(t *testing.T) {
	for _, l := range [][]int{{7, 7, 7, 7, 7}, {200, 201, 202}, {100, 3, 90}, {}} {
		for _, w := range ways() {
			in := append(make([]int, 0, 20), l...)
			in[:20][len(l)] = 77
			b, _ := w.lays(in...)
			if !slices.Equal(in, l) || in[:20][len(l)] != 77 {
				t.Errorf("%s changed %v to %v", w.name, l, in[:20])
			}
			spoil(in, 1)
			want := w.words(l)
			if !slices.Equal(b, want) {
				t.Errorf("%s of %v became %v", w.name, l, b)
			}
			other, _ := w.lays(l...)
			spoil(b, 9)
			if again, _ := w.lays(l...); !slices.Equal(other, want) || !slices.Equal(again, want) {
				t.Errorf("%s of %v: %v, then %v", w.name, l, other, again)
			}
			bytes := append(make([]byte, 0, 40), want...)
			bytes[:40][len(want)] = 77
			got, _ := pack.Decode(bytes)
			if !slices.Equal(bytes, want) || bytes[:40][len(want)] != 77 {
				t.Errorf("Decode changed %v to %v", want, bytes[:40])
			}
			spoil(bytes, 3)
			two, _ := pack.Decode(want)
			if !slices.Equal(got, l) {
				t.Errorf("Decode of %v became %v", want, got)
			}
			spoil(got, 5)
			if again, _ := pack.Decode(want); !slices.Equal(two, l) || !slices.Equal(again, l) {
				t.Errorf("Decode of %v: %v, then %v", want, two, again)
			}
		}
	}
}

// W2: what is told does not depend on what was asked ahead, nor on who asks meanwhile.
func TestTogether(t *testing.T) {
	var all sync.WaitGroup
	for seed := range 4 {
		all.Go(func() {
			r := rand.New(rand.NewSource(int64(seed)))
			for range 200 {
				wantsLaid(t, byChance(r)...)
				wantsNone(t, -1)
				wantsBad(t, "of no way", []byte{3, 0})
			}
		})
	}
	all.Wait()
}

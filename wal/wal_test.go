package wal_test

import (
	"fmt"
	"math"
	"math/rand"
	"slices"
	"sync"
	"testing"

	"winnower/api"
	"winnower/wal"
)

// P20.1: First is 0 to MaxIndex.
func TestFirst(t *testing.T) {
	for _, n := range []int{0, 1, 127, 128, 1 << 34, api.MaxIndex - 1, api.MaxIndex} {
		wantsGood(t, n, batch(n, "a"))
		wantsGood(t, n, batch(n, "a", "b"))
	}
	for _, n := range []int{-1, -2, math.MinInt, api.MaxIndex + 1, api.MaxIndex + 2, 1 << 40, 1 << 62, math.MaxInt} {
		wantsWrong(t, n, batch(n, "a"))
		wantsWrong(t, n, batch(n, "a", "b"))
	}
}

// P20.1: 1 to MaxBatch lines.
func TestCounts(t *testing.T) {
	for _, n := range []int{1, 2, 63, 64} {
		wantsGood(t, n, batch(5, slices.Repeat([]string{"a"}, n)...))
		wantsGood(t, n, batch(5, make([]string, n)...))
		wantsGood(t, n, batch(5, slices.Repeat([]string{long(256)}, n)...))
	}
	for _, n := range []int{0, 65, 66, 128, 1000, 1 << 16} {
		wantsWrong(t, n, batch(5, slices.Repeat([]string{"a"}, n)...))
		wantsWrong(t, n, batch(5, make([]string, n)...))
	}
	wantsWrong(t, "an empty list", batch(5, []string{}...))
	wantsWrong(t, "the zero value", wal.Batch{})
}

// P20.1: a line has at most MaxLine bytes, at each place.
func TestLengths(t *testing.T) {
	for _, n := range []int{0, 1, 127, 128, 255, 256, 257, 258, 1000, 1 << 20} {
		for _, b := range []wal.Batch{batch(5, long(n)), batch(5, long(n), "b", "c"), batch(5, "b", long(n), "c"), batch(5, "b", "c", long(n))} {
			if n <= 256 {
				wantsGood(t, n, b)
			} else {
				wantsWrong(t, n, b)
			}
		}
	}
}

// P20.1: to the byte, the Sum too.
func TestEncode(t *testing.T) {
	for _, at := range []struct {
		b    wal.Batch
		want string
	}{
		{batch(0, ""), "\x00\x01\x00"},
		{batch(300, "a", "", "\xff\x00"), "\xac\x02\x03\x01a\x00\x02\xff\x00"},
		{batch(1<<35, "up 3"), "\x80\x80\x80\x80\x80\x01\x01\x04up 3"},
		{batch(1, long(200)), "\x01\x01\xc8\x01" + long(200)},
	} {
		if p, e := wal.Encode(at.b); e != api.OK || string(p) != string(summed([]byte(at.want))) {
			t.Errorf("Encode of %s: error %d, %x, want %x", tell(at.b), e, p, summed([]byte(at.want)))
		}
		wantsGood(t, "to the byte", at.b)
	}
	if p, e := wal.Encode(batch(0, "")); e != api.OK || string(p) != "\x00\x01\x00"+"\x53\xe8\x5a\xe6" {
		t.Errorf("error %d, %x", e, p)
	}
}

// P20.1: each prefix, each byte more, another byte at each place, a byte gone: the Sum is another one.
func TestSpoilt(t *testing.T) {
	for _, b := range several() {
		good, _ := wal.Encode(b)
		wantsDecoded(t, "good", good, b)
		for n := range good {
			wantsBad(t, fmt.Sprint("the first ", n, " bytes"), good[:n])
			wantsBad(t, fmt.Sprint("without ", n), slices.Delete(slices.Clone(good), n, n+1))
		}
		for c := range 256 {
			wantsBad(t, fmt.Sprint("one more: ", c), append(slices.Clone(good), byte(c)))
			for at, old := range good {
				if old == byte(c) {
					continue
				}
				spoilt := slices.Clone(good)
				spoilt[at] = byte(c)
				wantsBad(t, fmt.Sprint(c, " at ", at), spoilt)
			}
		}
		n := len(good) - 4
		wantsBad(t, "the Sum turned", slices.Concat(good[:n], []byte{good[n+3], good[n+2], good[n+1], good[n]}))
		wantsBad(t, "the Sum twice", summed(good))
		wantsBad(t, "no Sum", good[:n])
	}
	wantsBad(t, "nothing", nil)
	wantsBad(t, "nothing", []byte{})
	wantsBad(t, "a Sum of nothing", summed(nil))
	wantsBad(t, "noughts", make([]byte, 30))
}

// P20.1: the same with the Sum put right: numbers that are not in their shortest way, other lengths.
func TestSpoiltUnderTheSum(t *testing.T) {
	for _, b := range several() {
		good := laid(b)
		for n := range good {
			wantsBad(t, fmt.Sprint("the first ", n, " bytes"), summed(good[:n]))
			wantsDecode(t, fmt.Sprint("without ", n), summed(slices.Delete(slices.Clone(good), n, n+1)))
			for _, more := range []string{"\x00", "\x80\x00", "\x80\x80\x80\x80\x80\x80\x80\x80\x00"} {
				wantsDecode(t, fmt.Sprint("long at ", n), summed(slices.Concat(good[:n], []byte{good[n] | 0x80}, []byte(more), good[n+1:])))
			}
			for _, other := range []string{"\x80\x80\x80\x80\x80\x80\x80\x80\x40", "\xff\xff\xff\xff\xff\xff\xff\xff\x3f", "\x81\x80\x80\x80\x80\x80\x80\x80\x40", "\x80\x80\x80\x80\x80\x01", "\x81\x80\x80\x80\x80\x01"} {
				wantsDecode(t, fmt.Sprint("another at ", n), summed(slices.Concat(good[:n], []byte(other), good[n+1:])))
			}
		}
		for c := range 256 {
			wantsBad(t, fmt.Sprint("one more: ", c), summed(append(slices.Clone(good), byte(c))))
			for at := range good {
				spoilt := slices.Clone(good)
				spoilt[at] = byte(c)
				wantsDecode(t, fmt.Sprint(c, " at ", at), summed(spoilt))
				wantsDecode(t, fmt.Sprint(c, " ahead of ", at), summed(slices.Insert(slices.Clone(good), at, byte(c))))
			}
		}
	}
	for _, s := range []string{"\x85\x00\x01\x01a", "\x05\x81\x00\x01a", "\x05\x01\x81\x00a", "\x05\x01\x80\x00", "\x80\x00\x01\x01a"} {
		wantsBad(t, "not the shortest way", summed([]byte(s)))
	}
	wantsDecoded(t, "the shortest way", summed([]byte("\x05\x01\x01a")), batch(5, "a"))
	wantsBad(t, "far more lines than there are", summed(nums(5, 1<<62, 0, 0, 0)))
	wantsBad(t, "a line far longer than what is there", summed(nums(5, 1, 1<<62, 0, 0, 0)))
}

// P20.1: bytes by chance, under a Sum that is right.
func TestDecodeByChance(t *testing.T) {
	r := rand.New(rand.NewSource(201))
	for range 20000 {
		p := make([]byte, r.Intn(12))
		for i := range p {
			p[i] = byte(r.Intn(4))
			if r.Intn(10) == 0 {
				p[i] = byte(r.Intn(256))
			}
		}
		wantsDecode(t, "by chance", p)
		wantsDecode(t, "by chance", summed(p))
	}
	for range 3000 {
		b := byChance(r)
		wantsGood(t, "by chance", b)
		p := laid(b)
		for range 1 + r.Intn(2) {
			p[r.Intn(len(p))] = byte(r.Intn(8))
		}
		wantsDecode(t, "spoilt by chance", summed(p))
	}
}

// wantsChain holds what Chain tells of batches that stand one behind the other.
func wantsChain(t *testing.T, what any, from int, l ...wal.Batch) {
	t.Helper()
	var want []string
	for _, b := range l {
		want = append(want, b.Lines...)
	}
	if lines, ok := wal.Chain(from, l...); !ok || tellLines(lines) != tellLines(want) {
		t.Errorf("%v: Chain from %d: %s, %v, want %s", what, from, tellLines(lines), ok, tellLines(want))
	}
}

func wantsNoChain(t *testing.T, what any, from int, l ...wal.Batch) {
	t.Helper()
	if lines, ok := wal.Chain(from, l...); ok || len(lines) > 0 {
		t.Errorf("%v: Chain from %d of %v: %q, %v", what, from, l, lines, ok)
	}
}

// P20.2: none, one, several; a gap, an overlap, a first one that does not begin at from.
func TestChain(t *testing.T) {
	a, b, c := batch(5, "a", "", "a"), batch(8, "b"), batch(9, "c", "d")
	for _, from := range []int{0, 5, -1, math.MinInt, math.MaxInt} {
		wantsChain(t, "none", from)
		wantsChain(t, "none", from, []wal.Batch{}...)
	}
	wantsChain(t, "one", 5, a)
	wantsChain(t, "two", 5, a, b)
	wantsChain(t, "three", 5, a, b, c)
	wantsChain(t, "from 0", 0, batch(0, "x"), batch(1, "y"))
	for _, from := range []int{4, 6, 8, 0, -5, math.MinInt, math.MaxInt} {
		wantsNoChain(t, "begins elsewhere", from, a)
		wantsNoChain(t, "begins elsewhere", from, a, b, c)
	}
	wantsNoChain(t, "no first one", 5, b, c)
	for _, first := range []int{7, 9, 6, 5, 0, -8, math.MinInt, math.MaxInt} {
		wantsNoChain(t, first, 5, a, batch(first, "b"))
		wantsNoChain(t, first, 5, a, batch(first, "b"), c)
		wantsNoChain(t, first, 5, a, batch(first, "b"), batch(first+1, "c"))
	}
	wantsNoChain(t, "the last one", 5, a, b, batch(10, "c"))
	wantsNoChain(t, "the last one", 5, a, b, batch(8, "c"))
	for _, l := range [][]wal.Batch{{a, c}, {a, c, b}, {a, a}, {a, b, b}, {a, b, a}, {b, a}, {a, b, c, c}} {
		wantsNoChain(t, "in no row", 5, l...)
	}
}

// P20.2: Chain looks at nothing but where they begin and end: batches that may not be, and numbers as great as they get.
func TestChainOfAny(t *testing.T) {
	many := batch(7, slices.Repeat([]string{long(300)}, 100)...)
	wantsChain(t, "many long lines", 7, many, batch(107, "b"))
	wantsNoChain(t, "many long lines", 7, many, batch(106, "b"))
	wantsChain(t, "of no line", 7, batch(7), batch(7, "a"), batch(8), batch(8), batch(8, "b"))
	wantsNoChain(t, "of no line", 7, batch(7), batch(8, "a"))
	wantsNoChain(t, "of no line", 7, batch(7), batch(6, "a"))
	wantsChain(t, "below 0", -2, batch(-2, "a"), batch(-1, "b", "c"), batch(1, "d"))
	wantsChain(t, "the greatest", math.MaxInt-1, batch(math.MaxInt-1, "a"), batch(math.MaxInt, "b"))
	wantsNoChain(t, "behind the greatest", math.MaxInt, batch(math.MaxInt, "a"), batch(math.MinInt, "b"))
	wantsNoChain(t, "behind the greatest", math.MaxInt-1, batch(math.MaxInt-1, "a", "b", "c"), batch(math.MinInt+1, "d"))
	wantsChain(t, "the least", math.MinInt, batch(math.MinInt, "a"), batch(math.MinInt+1, "b"))
	wantsNoChain(t, "the greatest ahead of the least", math.MinInt, batch(math.MinInt), batch(math.MaxInt))
}

// P20.3: what is handed in is neither changed nor kept; what is answered is new memory.
func TestMemory(t *testing.T) {
	for _, b := range several() {
		want := tell(b)
		roomy := func() wal.Batch {
			lines := append(make([]string, 0, len(b.Lines)+3), b.Lines...)
			lines[:cap(lines)][len(lines)] = "spare"
			return batch(b.First, lines...)
		}
		spoil := func(l []string) {
			for i := range l[:cap(l)] {
				l[:cap(l)][i] = "spoilt"
			}
		}
		in := roomy()
		p, _ := wal.Encode(in)
		chained, _ := wal.Chain(in.First, in)
		alone, _ := wal.Chain(in.First, in)
		if tell(in) != want || in.Lines[:cap(in.Lines)][len(in.Lines)] != "spare" {
			t.Errorf("%s became %s", want, tell(in))
		}
		spoil(chained)
		if tell(in) != want || tellLines(alone) != tellLines(b.Lines) {
			t.Errorf("%s became %s, and %q", want, tell(in), alone)
		}
		spoil(in.Lines)
		if !slices.Equal(p, encode(b)) || tellLines(alone) != tellLines(b.Lines) {
			t.Errorf("%s became %x, and %q", want, p, alone)
		}
		bytes := append(make([]byte, 0, len(p)+9), p...)
		bytes[:cap(bytes)][len(p)] = 77
		got, _ := wal.Decode(bytes)
		two, _ := wal.Decode(bytes)
		if !slices.Equal(bytes, p) || bytes[:cap(bytes)][len(p)] != 77 {
			t.Errorf("%x changed to %x", p, bytes)
		}
		for i := range bytes[:cap(bytes)] {
			bytes[:cap(bytes)][i] = 'x'
		}
		if tell(got) != want {
			t.Errorf("%s became %s", want, tell(got))
		}
		spoil(got.Lines)
		if tell(two) != want {
			t.Errorf("%s became %s", want, tell(two))
		}
		for i := range p[:cap(p)] {
			p[:cap(p)][i] = 'x'
		}
		wantsGood(t, "again", b)
	}
}

// W2: what is told does not depend on what was asked ahead, nor on who asks meanwhile.
func TestTogether(t *testing.T) {
	var all sync.WaitGroup
	for seed := range 4 {
		all.Go(func() {
			r := rand.New(rand.NewSource(int64(seed)))
			for range 200 {
				b := byChance(r)
				wantsGood(t, "together", b)
				wantsChain(t, "together", b.First, b, batch(b.First+len(b.Lines), "a"))
				wantsBad(t, "nothing", nil)
			}
		})
	}
	all.Wait()
}

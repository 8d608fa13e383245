package segment_test

import (
	"fmt"
	"math/rand"
	"slices"
	"testing"

	"winnower/api"
	"winnower/pack"
	"winnower/segment"
)

// P18.1: each prefix, each byte more, another byte at each place, a byte ahead or gone: the Sum is another one.
func TestSpoilt(t *testing.T) {
	for _, s := range several() {
		good, _ := segment.Encode(s)
		wantsDecoded(t, "good", good, s)
		for n := range good {
			wantsBad(t, fmt.Sprint("the first ", n, " bytes"), good[:n])
			wantsBad(t, fmt.Sprint("without ", n), slices.Delete(slices.Clone(good), n, n+1))
		}
		for b := range 256 {
			wantsBad(t, fmt.Sprint("one more: ", b), append(slices.Clone(good), byte(b)))
			for at, old := range good {
				if old == byte(b) {
					continue
				}
				spoilt := slices.Clone(good)
				spoilt[at] = byte(b)
				wantsBad(t, fmt.Sprint(b, " at ", at), spoilt)
			}
		}
	}
	wantsBad(t, "nothing", nil)
	wantsBad(t, "nothing", []byte{})
	wantsBad(t, "a Sum of nothing", summed(nil))
	wantsBad(t, "noughts", make([]byte, 40))
}

// P18.1: the same with the Sum put right: what is wrong is wrong all the same.
func TestSpoiltUnderTheSum(t *testing.T) {
	for _, s := range several() {
		good, _ := segment.Encode(s)
		good = good[:len(good)-4]
		for n := range good {
			wantsBad(t, fmt.Sprint("the first ", n, " bytes"), summed(good[:n]))
			wantsDecode(t, fmt.Sprint("without ", n), summed(slices.Delete(slices.Clone(good), n, n+1)))
			for _, more := range []string{"\x00", "\x80\x00", "\x80\x80\x80\x80\x80\x80\x80\x80\x00"} {
				wantsDecode(t, fmt.Sprint("long at ", n), summed(slices.Concat(good[:n], []byte{good[n] | 0x80}, []byte(more), good[n+1:])))
			}
			for _, other := range []string{"\x80\x80\x80\x80\x80\x80\x80\x80\x40", "\xff\xff\xff\xff\xff\xff\xff\xff\x3f", "\x81\x80\x80\x80\x80\x80\x80\x80\x40", "\x80\x80\x80\x80\x80\x01", "\x81\x80\x80\x80\x80\x01"} {
				wantsDecode(t, fmt.Sprint("another at ", n), summed(slices.Concat(good[:n], []byte(other), good[n+1:])))
			}
		}
		for b := range 256 {
			wantsBad(t, fmt.Sprint("one more: ", b), summed(append(slices.Clone(good), byte(b))))
			for at := range good {
				spoilt := slices.Clone(good)
				spoilt[at] = byte(b)
				wantsDecode(t, fmt.Sprint(b, " at ", at), summed(spoilt))
				wantsDecode(t, fmt.Sprint(b, " ahead of ", at), summed(slices.Insert(slices.Clone(good), at, byte(b))))
			}
		}
	}
	wantsBad(t, "First not in its shortest way", summed(slices.Concat([]byte{0x80, 0}, row(best(0)), row(best(0)), row(texts()))))
	wantsBad(t, "a length not in its shortest way", summed(slices.Concat([]byte{0, 0x83, 0}, best(0), row(best(0)), row(texts()))))
}

// P18.1: the Sum's four bytes the other way round, or of other bytes.
func TestSum(t *testing.T) {
	good, _ := segment.Encode(seg(5, line(1, "3"), line(1, "4")))
	n := len(good) - 4
	wantsBad(t, "turned", slices.Concat(good[:n], []byte{good[n+3], good[n+2], good[n+1], good[n]}))
	wantsBad(t, "of nothing", slices.Concat(good[:n], make([]byte, 4)))
	wantsBad(t, "twice", summed(good))
	wantsBad(t, "gone", good[:n])
}

// P18.1: a column that is laid in another way than the best.
func TestDecodeOtherWays(t *testing.T) {
	s := seg(4, line(3, "a"), line(3, "b"), line(3), line(5, "a"))
	ids, counts, vars := []int{3, 3, 3, 5}, []int{1, 1, 0, 1}, texts("a", "b", "a")
	wantsDecoded(t, "best", laid(4, best(ids...), best(counts...), vars), s)
	for i, way := range []func(...int) ([]byte, api.Errno){pack.Plain, pack.Delta, pack.Runs} {
		if b, _ := way(ids...); !slices.Equal(b, best(ids...)) {
			wantsBad(t, i, laid(4, b, best(counts...), vars))
		} else if i > 0 {
			t.Error(i)
		}
		if b, _ := way(counts...); !slices.Equal(b, best(counts...)) {
			wantsBad(t, i, laid(4, best(ids...), b, vars))
		} else if i > 0 {
			t.Error(i)
		}
	}
	places, _ := pack.Delta(0, 1, 0)
	wantsBad(t, "the words' places", laid(4, best(ids...), best(counts...), slices.Concat([]byte("\x02\x01a\x01b"), row(places))))
	plain, _ := pack.Plain(0, 1, 0)
	wantsDecoded(t, "the words' places", laid(4, best(ids...), best(counts...), slices.Concat([]byte("\x02\x01a\x01b"), row(plain))), s)
}

// P18.1: columns of unlike lengths, and columns that are none.
func TestDecodeColumns(t *testing.T) {
	wantsDecoded(t, "good", laid(0, best(1, 2), best(1, 1), texts("a", "b")), seg(0, line(1, "a"), line(2, "b")))
	wantsDecoded(t, "good", laid(0, best(1, 2), best(0, 2), texts("a", "b")), seg(0, line(1), line(2, "a", "b")))
	for _, at := range []struct {
		ids, counts []int
		vars        []string
	}{
		{[]int{1}, []int{1, 1}, []string{"a", "b"}}, {[]int{1, 2, 3}, []int{1, 1}, []string{"a", "b"}}, {nil, []int{1, 1}, []string{"a", "b"}},
		{[]int{1, 2}, []int{2}, []string{"a", "b"}}, {[]int{1, 2}, nil, []string{"a", "b"}}, {[]int{1, 2}, []int{1, 1, 0}, []string{"a", "b"}},
		{[]int{1, 2}, []int{1, 1}, []string{"a"}}, {[]int{1, 2}, []int{1, 1}, []string{"a", "b", "c"}}, {[]int{1, 2}, []int{1, 1}, nil},
		{[]int{1, 2}, []int{1, 0}, []string{"a", "b"}}, {[]int{1, 2}, []int{0, 3}, []string{"a", "b"}}, {[]int{1, 2}, []int{1, 2}, []string{"a", "b"}}, {[]int{1, 2}, []int{3, 0}, []string{"a", "b"}},
		{[]int{1, 2}, []int{1 << 40, 1}, []string{"a", "b"}}, {[]int{1, 2}, []int{1, 1 << 40}, []string{"a", "b"}}, {[]int{1, 2}, []int{1 << 40, 1 << 40}, []string{"a", "b"}},
		{nil, nil, nil}, {nil, nil, []string{"a"}}, {nil, []int{0}, nil}, {[]int{0}, nil, nil},
	} {
		wantsBad(t, at, laid(0, best(at.ids...), best(at.counts...), texts(at.vars...)))
	}
	for _, b := range [][]byte{{}, {0}, {3, 0}, {0, 1}, {0, 1, 0, 0}, {0x80, 0, 1, 0}} {
		wantsBad(t, b, laid(0, b, best(0), texts()))
		wantsBad(t, b, laid(0, best(0), b, texts()))
		wantsBad(t, b, laid(0, best(0), best(1), b))
		wantsBad(t, b, laid(0, best(0), best(0), b))
	}
	wantsBad(t, "a column more", summed(slices.Concat(nums(0), row(best(0)), row(best(0)), row(texts()), row(nil))))
	wantsBad(t, "a column too few", summed(slices.Concat(nums(0), row(best(0)), row(best(0)))))
}

// P18.1: a segment that may not be.
func TestDecodeOfWrong(t *testing.T) {
	for _, s := range []segment.Segment{
		seg(api.MaxIndex+1, line(1, "a")), seg(1<<62, line(1, "a")), seg(0), seg(5),
		seg(5, lines(513, line(1, "a"))...), seg(5, lines(1000, line(0))...), seg(5, lines(1<<15, line(0))...),
		seg(5, line(64)), seg(5, line(0), line(65, "a")), seg(5, line(1<<40)),
		seg(5, line(1, make([]string, 65)...)), seg(5, line(1), line(2, slices.Repeat([]string{"a"}, 1000)...)),
		seg(5, line(1, long(257))), seg(5, line(1), line(2, "b", long(4096))),
	} {
		wantsBad(t, short(tell(s)), encode(s))
	}
	for _, s := range []segment.Segment{
		seg(api.MaxIndex, line(1, "a")), seg(5, lines(512, line(1, "a"))...), seg(5, line(63)), seg(5, line(1, make([]string, 64)...)), seg(5, line(1, long(256))),
	} {
		wantsDecoded(t, short(tell(s)), encode(s), s)
	}
}

// P18.1: bytes by chance, under a Sum that is right.
func TestDecodeByChance(t *testing.T) {
	r := rand.New(rand.NewSource(182))
	for range 10000 {
		b := make([]byte, r.Intn(24))
		for i := range b {
			b[i] = byte(r.Intn(4))
			if r.Intn(10) == 0 {
				b[i] = byte(r.Intn(256))
			}
		}
		wantsDecode(t, "by chance", b)
		wantsDecode(t, "by chance", summed(b))
	}
	for range 3000 {
		b := encode(byChance(r))
		b = b[:len(b)-4]
		for range 1 + r.Intn(2) {
			b[r.Intn(len(b))] = byte(r.Intn(8))
		}
		wantsDecode(t, "spoilt by chance", summed(b))
	}
}

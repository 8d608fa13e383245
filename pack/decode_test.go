package pack_test

import (
	"fmt"
	"math/rand"
	"slices"
	"testing"

	"winnower/pack"
)

// someRows is rows in which each way has numbers of one byte, of several, alike ones, falling ones.
func someRows() [][]int {
	return [][]int{{}, {0}, {300}, {7, 7, 7, 7, 7}, {1, 2, 3}, {200, 201, 150, 150, 150, 0}, {greatest, 0, greatest}, {128, 128, 127, 127}}
}

// P16.1: each prefix, each byte more, another byte at each place, a byte ahead or gone.
func TestSpoilt(t *testing.T) {
	for _, l := range someRows() {
		for _, w := range ways() {
			good, _ := w.lays(l...)
			wantsDecoded(t, w.name, good, l)
			for n := range good {
				wantsBad(t, fmt.Sprint("the first ", n, " bytes"), good[:n])
				wantsDecode(t, fmt.Sprint("without the first ", n), good[n:])
				wantsDecode(t, fmt.Sprint("without ", n), slices.Delete(slices.Clone(good), n, n+1))
			}
			for b := range 256 {
				wantsBad(t, fmt.Sprint("one more: ", b), append(slices.Clone(good), byte(b)))
				for at := range good {
					spoilt := slices.Clone(good)
					spoilt[at] = byte(b)
					wantsDecode(t, fmt.Sprint(b, " at ", at), spoilt)
					wantsDecode(t, fmt.Sprint(b, " ahead of ", at), slices.Insert(slices.Clone(good), at, byte(b)))
				}
			}
		}
	}
}

// P16.1: a number that is not written in its shortest way, or is far too great.
func TestLongNumbers(t *testing.T) {
	for _, l := range someRows() {
		for _, w := range ways() {
			good, _ := w.lays(l...)
			for at, b := range good {
				if b >= 128 {
					continue
				}
				for _, more := range []string{"\x00", "\x80\x00", "\x80\x80\x80\x80\x80\x80\x80\x00", "\x80\x80\x80\x80\x80\x80\x80\x80\x80\x00"} {
					wantsBad(t, fmt.Sprint("long at ", at), slices.Concat(good[:at], []byte{b | 0x80}, []byte(more), good[at+1:]))
				}
				for _, other := range []string{"\x80\x80\x80\x80\x80\x80\x80\x80\x40", "\xff\xff\xff\xff\xff\xff\xff\xff\x3f", "\x81\x80\x80\x80\x80\x80\x80\x80\x40", "\xff\xff\xff\xff\xff\xff\xff\xff\xff\xff\x01", "\x80\x80\x80\x80\x80\x40", "\x81\x80\x80\x80\x80\x20", "\xff\xff\x01", "\x80\x80\x02"} {
					wantsDecode(t, fmt.Sprint("another at ", at), slices.Concat(good[:at], []byte(other), good[at+1:]))
				}
			}
		}
	}
}

// P16.1: a kind that there is not.
func TestKinds(t *testing.T) {
	for kind := range 400 {
		for _, rest := range [][]int{{}, {0}, {1, 0}, {1, 1, 0}, {1, 1}, {2, 1, 1}} {
			b := nums(append([]int{kind}, rest...)...)
			if kind > 2 {
				wantsBad(t, kind, b)
			}
			wantsDecode(t, kind, b)
		}
	}
	wantsBad(t, "nothing", nil)
	wantsBad(t, "nothing", []byte{})
}

// P16.1: more numbers than may be, or than there are.
func TestDecodeCounts(t *testing.T) {
	for _, n := range []int{0, 1, most - 1, most} {
		for _, kind := range []int{0, 1} {
			wantsDecoded(t, n, append(nums(kind, n), make([]byte, n)...), make([]int, n))
			wantsBad(t, "one too few", append(nums(kind, n+1), make([]byte, n)...))
			wantsBad(t, "one too many", append(nums(kind, n), make([]byte, n+1)...))
		}
	}
	for _, n := range []int{most + 1, most + 2, 3 * most} {
		for _, kind := range []int{0, 1} {
			wantsBad(t, n, append(nums(kind, n), make([]byte, n)...))
			wantsBad(t, "none is there", nums(kind, n))
			wantsBad(t, "so many more than there are", nums(kind, 1<<62, 1, 1, 1))
		}
		wantsBad(t, "none is there", nums(2, n))
	}
	wantsBad(t, "so many more than there are", nums(2, 1<<62, 1, 1))
}

// P16.1: a Plain of a number that may not be.
func TestDecodePlain(t *testing.T) {
	wantsDecoded(t, "just", nums(0, 2, greatest, 0), []int{greatest, 0})
	for _, n := range []int{greatest + 1, 1 << 41, 1 << 61, 1 << 62} {
		wantsBad(t, n, nums(0, 1, n))
		wantsBad(t, n, nums(0, 3, 1, n, 2))
		wantsBad(t, n, nums(2, 1, 1, n))
		wantsBad(t, n, nums(2, 2, 1, n, 3, 5))
	}
}

// P16.1: a Delta that leads below 0 or above 2^40, if only for a while.
func TestDecodeDelta(t *testing.T) {
	wantsDecoded(t, "just", nums(1, 4, 2*greatest, 2*greatest-1, 2*greatest, 2*3-1), []int{greatest, 0, greatest, greatest - 3})
	wantsDecoded(t, "down to 0", nums(1, 3, 2*5, 2*5-1, 2), []int{5, 0, 1})
	for _, l := range [][]int{
		{1}, {3}, {2*greatest + 1}, {10, 2*6 - 1}, {10, 2*6 - 1, 2 * 10}, {0, 1, 2},
		{2*greatest + 2}, {2 * greatest, 2}, {2 * greatest, 2, 1}, {2, 2 * greatest}, {2, 2 * greatest, 2*5 - 1},
		{1 << 62}, {1<<62 - 1}, {1 << 62, 1<<62 - 1, 1}, {1 << 62, 1<<62 - 1}, {1<<62 - 1, 1 << 62},
		{1 << 62, 1 << 62, 1 << 62, 1 << 62, 1 << 62, 1 << 62, 1 << 62, 1 << 62},
		{5, 1 << 62, 1 << 62, 1 << 62, 1 << 62, 1 << 62, 1 << 62, 1 << 62, 1 << 62},
		{10, 1<<62 - 1, 1<<62 - 1, 1<<62 - 1, 1<<62 - 1, 1<<62 - 1, 1<<62 - 1, 1<<62 - 1, 1<<62 - 1, 16},
	} {
		wantsBad(t, l, append(nums(1, len(l)), nums(l...)...))
	}
}

// P16.1: a Runs with a row of none, with two rows of one number side by side, with more in all than may be.
func TestDecodeRuns(t *testing.T) {
	wantsDecoded(t, "good", nums(2, 3, 1, 5, 2, 6, 1, 5), []int{5, 6, 6, 5})
	for _, l := range [][]int{
		{0, 5}, {0, 5, 1, 6}, {1, 5, 0, 6}, {1, 5, 0, 6, 1, 7}, {1, 5, 0, 5}, {1, 5, 0, 6, 1, 5}, {0, 0}, {0, 0, 0, 0},
		{1, 5, 1, 5}, {2, 0, 1, 0}, {1, 4, 1, 5, 3, 5}, {1, 5, 1, 5, 1, 6},
		{most + 1, 0}, {most, 0, 1, 1}, {1, 1, most, 0}, {most - 1, 0, 1, 1, 1, 0}, {1 << 62, 0}, {1 << 62, 7, 1 << 62, 8, 1 << 62, 7, 1 << 62, 8},
		{1, 1, 1 << 62, 7}, {most + 5, 1, 1, 2, 1, 3}, {most + 1, 0, 0, 1},
	} {
		wantsBad(t, l, append(nums(2, len(l)/2), nums(l...)...))
	}
	wantsBad(t, "half a row", nums(2, 2, 1, 5, 1))
	wantsBad(t, "half a row more", nums(2, 1, 1, 5, 1))
	wantsBad(t, "a row too few", nums(2, 1, 1, 5, 1, 6))
	wantsBad(t, "a row too many", nums(2, 2, 1, 5))
	for _, l := range [][]int{{most, 9}, {most - 1, 9, 1, 8}, {1, 9, most - 1, 8}} {
		b := append(nums(2, len(l)/2), nums(l...)...)
		want, _ := decode(b)
		if len(want) != most {
			t.Fatal(len(want))
		}
		wantsDecoded(t, l, b, want)
	}
}

// P16.1: all short rows of a few bytes, and bytes by chance.
func TestDecodeByChance(t *testing.T) {
	rows := [][]byte{nil}
	for range 6 {
		var next [][]byte
		for _, b := range rows {
			wantsDecode(t, "of a few bytes", b)
			for n := range 4 {
				next = append(next, append(slices.Clone(b), byte(n)))
			}
		}
		rows = next
	}
	r := rand.New(rand.NewSource(162))
	for range 20000 {
		b := make([]byte, r.Intn(12))
		for i := range b {
			b[i] = byte(r.Intn(6))
			if r.Intn(8) == 0 {
				b[i] = byte(r.Intn(256))
			}
		}
		wantsDecode(t, "by chance", b)
	}
}

// P16.2: of each way Decode tells the numbers, also where that way is not the shortest.
func TestDecodeOfEachWay(t *testing.T) {
	for _, l := range someRows() {
		for _, w := range ways() {
			b, _ := w.lays(l...)
			wantsDecoded(t, w.name, b, l)
		}
	}
	if l, e := pack.Decode(nums(1, 1, 2*7)); e != 0 || !slices.Equal(l, []int{7}) {
		t.Errorf("error %d, %v", e, l)
	}
}

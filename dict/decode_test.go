package dict_test

import (
	"fmt"
	"math/rand"
	"slices"
	"testing"

	"winnower/dict"
	"winnower/pack"
)

// someRows is texts of which some begin others, are alike, are long, are empty.
func someRows() [][]string {
	return [][]string{nil, {""}, {"b", "a", "b"}, {"ab", "abc", "a", "", "ab"}, {"x", "x", "x", "x", "x"}, {"\xff", "\x00", long(130)}}
}

// P17.1: each prefix, each byte more, another byte at each place, a byte ahead or gone.
func TestSpoilt(t *testing.T) {
	for _, l := range someRows() {
		good, _ := dict.Encode(l...)
		wantsDecoded(t, "good", good, l)
		for n := range good {
			wantsBad(t, fmt.Sprint("the first ", n, " bytes"), good[:n])
			wantsDecode(t, fmt.Sprint("without the first ", n), good[n:])
			wantsDecode(t, fmt.Sprint("without ", n), slices.Delete(slices.Clone(good), n, n+1))
		}
		for b := range 256 {
			wantsBad(t, fmt.Sprint("one more: ", b), append(slices.Clone(good), byte(b)))
			for at := range good {
				spoilt := slices.Clone(good)
				spoilt[at] = byte(b)
				wantsDecode(t, fmt.Sprint(b, " at ", at), spoilt)
				wantsDecode(t, fmt.Sprint(b, " ahead of ", at), slices.Insert(slices.Clone(good), at, byte(b)))
			}
		}
	}
	wantsBad(t, "nothing", nil)
	wantsBad(t, "nothing", []byte{})
}

// P17.1: words that do not rise, one word twice.
func TestDecodeWords(t *testing.T) {
	for _, at := range []struct {
		words []string
		good  bool
	}{
		{[]string{"a", "b", "c"}, true}, {[]string{"", "a", "aa"}, true}, {[]string{"\x00", "a", "\xff"}, true}, {[]string{"a", "b", "b\x00"}, true},
		{[]string{"b", "a", "c"}, false}, {[]string{"a", "c", "b"}, false}, {[]string{"c", "b", "a"}, false}, {[]string{"b", "c", "a"}, false},
		{[]string{"a", "a", "b"}, false}, {[]string{"a", "b", "b"}, false}, {[]string{"a", "a", "a"}, false}, {[]string{"a", "b", "a"}, false},
		{[]string{"", "", "a"}, false}, {[]string{"a", "", "b"}, false}, {[]string{"a", "ab", "aa"}, false}, {[]string{"ab", "a", "b"}, false},
		{[]string{"a", "\xff", "z"}, false}, {[]string{"a", "Z", "b"}, false},
	} {
		b := laid(at.words, best(0, 1, 2, 1))
		if at.good {
			wantsDecoded(t, at.words, b, []string{at.words[0], at.words[1], at.words[2], at.words[1]})
		} else {
			wantsBad(t, at.words, b)
		}
		wantsDecode(t, at.words, b)
	}
	for _, n := range []int{longest - 1, longest} {
		wantsDecoded(t, n, laid([]string{"a", long(n)}, best(1, 0)), []string{long(n), "a"})
	}
	for _, n := range []int{longest + 1, 2 * longest} {
		wantsBad(t, n, laid([]string{"a", long(n)}, best(1, 0)))
		wantsBad(t, n, laid([]string{long(n)}, best(0, 0)))
	}
}

// P17.1: a word that no place names, and a place that is none.
func TestDecodePlaces(t *testing.T) {
	words := []string{"a", "b", "c"}
	wantsDecoded(t, "good", laid(words, best(2, 0, 1, 1, 0)), []string{"c", "a", "b", "b", "a"})
	for _, places := range [][]int{
		{}, {0}, {0, 1}, {1, 2}, {0, 2}, {2, 2, 2}, {0, 0, 1, 1, 0},
		{0, 1, 2, 3}, {3, 0, 1, 2}, {0, 1, 3}, {0, 1, 2, 1 << 40}, {1 << 40, 0, 1, 2}, {4, 4, 4}, {1, 2, 3},
	} {
		wantsBad(t, places, laid(words, best(places...)))
	}
	wantsBad(t, "a place of no word", laid(nil, best(0)))
	wantsBad(t, "a word of no place", laid([]string{""}, best()))
	wantsDecoded(t, "none of none", laid(nil, best()), nil)
}

// P17.1: places that are laid in another way than the best, or are no row of numbers.
func TestDecodeOtherWays(t *testing.T) {
	for _, places := range [][]int{{0}, {0, 1, 0}, {1, 0, 0, 0, 0, 0}, {0, 1, 0, 1, 0, 0, 0}, {0, 0, 1, 1}, {}} {
		words := []string{"a", "b"}[:min(len(places), 2)]
		if len(places) == 1 {
			words = words[:1]
		}
		same := 0
		for _, way := range []func(...int) ([]byte, error){
			func(l ...int) ([]byte, error) { b, _ := pack.Plain(l...); return b, nil },
			func(l ...int) ([]byte, error) { b, _ := pack.Delta(l...); return b, nil },
			func(l ...int) ([]byte, error) { b, _ := pack.Runs(l...); return b, nil },
		} {
			b, _ := way(places...)
			if slices.Equal(b, best(places...)) {
				same++
				wantsDecode(t, places, laid(words, b))
				continue
			}
			wantsBad(t, places, laid(words, b))
		}
		if same != 1 {
			t.Errorf("%v: %d of the ways are the best", places, same)
		}
	}
	for _, b := range [][]byte{{}, {0}, {3, 0}, {0, 1}, {0, 2, 0, 1, 0}, {0, 3, 0, 1}, {0, 2, 0, 0x81, 0}, {0x80, 0, 2, 0, 1}, {1, 2, 1, 2}} {
		wantsBad(t, b, laid([]string{"a", "b"}, b))
	}
}

// P17.1: a number that is not written in its shortest way, or is far too great.
func TestDecodeNumbers(t *testing.T) {
	for _, l := range someRows() {
		good, _ := dict.Encode(l...)
		for at, b := range good {
			for _, more := range []string{"\x00", "\x80\x00", "\x80\x80\x80\x80\x80\x80\x80\x80\x00"} {
				wantsDecode(t, fmt.Sprint("long at ", at), slices.Concat(good[:at], []byte{b | 0x80}, []byte(more), good[at+1:]))
			}
			for _, other := range []string{"\x80\x80\x80\x80\x80\x80\x80\x80\x40", "\xff\xff\xff\xff\xff\xff\xff\xff\x3f", "\x81\x80\x80\x80\x80\x80\x80\x80\x40", "\xff\xff\xff\xff\xff\xff\xff\xff\xff\xff\x01"} {
				wantsDecode(t, fmt.Sprint("another at ", at), slices.Concat(good[:at], []byte(other), good[at+1:]))
			}
		}
	}
	for _, s := range []string{"\x81\x00\x01a\x03\x00\x01\x00", "\x01\x81\x00a\x03\x00\x01\x00", "\x01\x01a\x83\x00\x00\x01\x00", "\x01\x01a\x04\x80\x00\x01\x00", "\x01\x01a\x04\x00\x81\x00\x00", "\x01\x01a\x04\x00\x01\x80\x00"} {
		wantsBad(t, "not the shortest way", []byte(s))
	}
	wantsDecoded(t, "the shortest way", []byte("\x01\x01a\x03\x00\x01\x00"), []string{"a"})
}

// P17.1: more texts than may be.
func TestDecodeCounts(t *testing.T) {
	for _, n := range []int{1, most - 1, most} {
		wantsDecoded(t, n, laid([]string{"a"}, best(make([]int, n)...)), slices.Repeat([]string{"a"}, n))
	}
	for _, n := range []int{most + 1, most + 2, 2 * most} {
		wantsBad(t, n, laid([]string{"a"}, nums(2, 1, n, 0)))
		wantsBad(t, n, laid([]string{"a"}, append(nums(0, n), make([]byte, n)...)))
	}
	rising := several(most)
	slices.Sort(rising)
	var places []int
	for k := range most {
		places = append(places, k)
	}
	wantsDecoded(t, "as many words", laid(rising, best(places...)), rising)
	more := append(slices.Clone(rising), "zz")
	wantsBad(t, "a word more", laid(more, best(places...)))
	wantsBad(t, "a word and a place more", laid(more, append(nums(1, most+1, 0), slices.Repeat([]byte{2}, most)...)))
}

// P17.1: bytes by chance.
func TestDecodeByChance(t *testing.T) {
	r := rand.New(rand.NewSource(172))
	for range 30000 {
		b := make([]byte, r.Intn(14))
		for i := range b {
			b[i] = byte(r.Intn(4))
			if r.Intn(10) == 0 {
				b[i] = byte(r.Intn(256))
			}
		}
		wantsDecode(t, "by chance", b)
	}
}

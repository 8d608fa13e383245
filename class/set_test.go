package class_test

import (
	"math/rand"
	"slices"
	"testing"

	"winnower/api"
	"winnower/class"
)

// allBytes is every byte, rising.
func allBytes() []byte {
	return plainRange(0, 255).list()
}

// P5.1
func TestOfNothing(t *testing.T) {
	plain{}.wants(t, "no argument", class.Of())
	plain{}.wants(t, "nil", class.Of(nil...))
	plain{}.wants(t, "an empty list", class.Of([]byte{}...))
}

// P5.1: bit n modulo 64 of word n by 64, as api tells.
func TestOfOneByte(t *testing.T) {
	for _, at := range []struct {
		b    byte
		want api.Set
	}{
		{0, api.Set{1, 0, 0, 0}},
		{1, api.Set{2, 0, 0, 0}},
		{63, api.Set{1 << 63, 0, 0, 0}},
		{64, api.Set{0, 1, 0, 0}},
		{127, api.Set{0, 1 << 63, 0, 0}},
		{128, api.Set{0, 0, 1, 0}},
		{191, api.Set{0, 0, 1 << 63, 0}},
		{192, api.Set{0, 0, 0, 1}},
		{255, api.Set{0, 0, 0, 1 << 63}},
	} {
		if got := class.Of(at.b); got != at.want {
			t.Errorf("Of(%d) = %x, want %x", at.b, got, at.want)
		}
	}
	for _, b := range allBytes() {
		plainOf(b).wants(t, b, class.Of(b))
	}
}

// P5.1
func TestOfOneByteManyTimes(t *testing.T) {
	for _, b := range edges {
		for _, n := range []int{2, 3, 64, 257, 1000} {
			plainOf(b).wants(t, b, class.Of(slices.Repeat([]byte{b}, n)...))
		}
	}
	plainOf(5, 70).wants(t, "two, in turns", class.Of(5, 70, 5, 70, 70, 5))
}

// P5.1
func TestOfEdges(t *testing.T) {
	plainOf(0, 63, 64, 127, 128, 191, 192, 255).wants(t, "all ends of words", class.Of(255, 0, 64, 63, 192, 128, 127, 191))
	if got, want := class.Of(0, 63, 64, 127, 128, 191, 192, 255), uint64(1<<63|1); got != (api.Set{want, want, want, want}) {
		t.Errorf("%x", got)
	}
	for _, a := range edges {
		for _, b := range edges {
			plainOf(a, b).wants(t, []byte{a, b}, class.Of(a, b))
		}
	}
}

// P5.1
func TestOfAllInAnyOrder(t *testing.T) {
	all := plainRange(0, 255)
	bytes := allBytes()
	all.wants(t, "rising", class.Of(bytes...))
	slices.Reverse(bytes)
	all.wants(t, "falling", class.Of(bytes...))
	all.wants(t, "twice", class.Of(append(bytes, bytes...)...))
	r := rand.New(rand.NewSource(1))
	for range 20 {
		r.Shuffle(len(bytes), func(i, k int) { bytes[i], bytes[k] = bytes[k], bytes[i] })
		all.wants(t, "shuffled", class.Of(bytes...))
		plainOf(bytes[:100]...).wants(t, "some", class.Of(bytes[:100]...))
	}
	if got := class.Of(bytes...); got != (api.Set{^uint64(0), ^uint64(0), ^uint64(0), ^uint64(0)}) {
		t.Errorf("%x", got)
	}
}

// P5.1: all rows there are, none of a low above the high.
func TestRange(t *testing.T) {
	for low := range 256 {
		for high := range 256 {
			got := class.Range(byte(low), byte(high))
			if want := plainRange(byte(low), byte(high)).set(); got != want {
				t.Fatalf("Range(%d, %d) = %x, want %x", low, high, got, want)
			}
		}
	}
}

// P5.1
func TestRangeEdges(t *testing.T) {
	full := ^uint64(0)
	for _, at := range []struct {
		low, high byte
		want      api.Set
	}{
		{0, 255, api.Set{full, full, full, full}},
		{0, 0, api.Set{1}},
		{255, 255, api.Set{3: 1 << 63}},
		{1, 0, api.Set{}},
		{255, 0, api.Set{}},
		{255, 254, api.Set{}},
		{64, 63, api.Set{}},
		{128, 127, api.Set{}},
		{0, 63, api.Set{full}},
		{0, 64, api.Set{full, 1}},
		{63, 64, api.Set{1 << 63, 1}},
		{64, 127, api.Set{1: full}},
		{127, 128, api.Set{0, 1 << 63, 1, 0}},
		{63, 192, api.Set{1 << 63, full, full, 1}},
		{191, 192, api.Set{2: 1 << 63, 3: 1}},
		{254, 255, api.Set{3: 3 << 62}},
	} {
		if got := class.Range(at.low, at.high); got != at.want {
			t.Errorf("Range(%d, %d) = %x, want %x", at.low, at.high, got, at.want)
		}
	}
}

// P5.1
func TestHasAtWordEnds(t *testing.T) {
	for _, b := range edges {
		for _, c := range edges {
			if class.Has(class.Of(b), c) != (b == c) {
				t.Errorf("Has of %d alone: %d", b, c)
			}
			if class.Has(class.Not(class.Of(b)), c) != (b != c) {
				t.Errorf("Has of all but %d: %d", b, c)
			}
		}
		if class.Has(api.Set{}, b) || !class.Has(class.Range(0, 255), b) {
			t.Error("Has of none, of all:", b)
		}
	}
	for i := range 4 {
		var s api.Set
		s[i] = 1<<63 | 1
		for _, b := range allBytes() {
			if class.Has(s, b) != (int(b) == 64*i || int(b) == 64*i+63) {
				t.Errorf("Has of the ends of word %d: %d", i, b)
			}
		}
	}
}

// P5.2: by their words sets are one just where each byte is in both or in neither.
func TestOneJustIfWordsAre(t *testing.T) {
	list := plains()[:800]
	sets := make([]api.Set, len(list))
	for i, p := range list {
		sets[i] = class.Of(p.list()...)
	}
	for i, a := range sets {
		for k, b := range sets {
			if (a == b) != (list[i] == list[k]) || (a == b) != slices.Equal(class.List(a), class.List(b)) {
				t.Fatalf("%v and %v", class.Ranges(a), class.Ranges(b))
			}
		}
	}
}

// P5.2: in whatever way a set was made, its words are the same.
func TestSameHoweverMade(t *testing.T) {
	for _, p := range plains() {
		s, list := p.set(), p.list()
		slices.Reverse(list)
		var alone, without []api.Set
		for b, in := range p {
			if in {
				alone = append(alone, class.Of(byte(b)))
			} else {
				without = append(without, class.Not(class.Of(byte(b))))
			}
		}
		for how, got := range []api.Set{
			class.Of(list...), class.Join(alone...), class.Meet(without...),
			class.Not(class.Not(s)), joinOfRanges(s),
		} {
			if got != s {
				t.Errorf("way %d: got %x, want %x", how, got, s)
			}
		}
	}
}

// W6: what is handed in stays, even the room behind its end.
func TestLeavesWhatIsHandedIn(t *testing.T) {
	bytes := []byte{9, 3, 200, 3, 77, 78}
	got := class.Of(bytes[:4]...)
	if !slices.Equal(bytes, []byte{9, 3, 200, 3, 77, 78}) {
		t.Error("bytes became", bytes)
	}
	clear(bytes)
	plainOf(3, 9, 200).wants(t, "written over afterwards", got)

	sets := []api.Set{class.Of(1, 2), class.Of(2, 3), class.Of(4)}
	joined, met := class.Join(sets[:2]...), class.Meet(sets[:2]...)
	if !slices.Equal(sets, []api.Set{plainOf(1, 2).set(), plainOf(2, 3).set(), plainOf(4).set()}) {
		t.Errorf("sets became %x", sets)
	}
	clear(sets)
	plainOf(1, 2, 3).wants(t, "written over afterwards", joined)
	plainOf(2).wants(t, "written over afterwards", met)
}

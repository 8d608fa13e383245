package segment_test

import (
	"fmt"
	"math"
	"math/rand"
	"slices"
	"sync"
	"testing"

	"winnower/api"
	"winnower/segment"
)

// The example: P18.1.
func TestExample(t *testing.T) {
	s := seg(0, line(1, "3"), line(1, "4"))
	b, e := segment.Encode(s)
	if want := laid(0, best(1, 1), best(1, 1), texts("3", "4")); e != api.OK || !slices.Equal(b, want) {
		t.Errorf("error %d, %x, want %x", e, b, want)
	}
	wantsGood(t, "the example", s)
}

// P18.1: First is 0 to MaxIndex.
func TestFirst(t *testing.T) {
	for _, n := range []int{0, 1, 127, 128, 1 << 34, api.MaxIndex - 1, api.MaxIndex} {
		wantsGood(t, n, seg(n, line(1, "a")))
		wantsGood(t, n, seg(n, line(1, "a"), line(2, "b")))
	}
	for _, n := range []int{-1, -2, math.MinInt, api.MaxIndex + 1, api.MaxIndex + 2, 1 << 40, 1 << 62, math.MaxInt} {
		wantsWrong(t, n, seg(n, line(1, "a")))
		wantsWrong(t, n, seg(n, line(1, "a"), line(2, "b")))
	}
}

// P18.1: 1 to MaxSeg lines.
func TestCounts(t *testing.T) {
	for _, n := range []int{1, 2, api.MaxSeg - 1, api.MaxSeg} {
		wantsGood(t, n, seg(7, lines(n, line(5, "a", ""))...))
		wantsGood(t, n, seg(7, lines(n, line(0))...))
	}
	wantsGood(t, "of as many variables as there may be", seg(7, lines(api.MaxSeg, line(5, slices.Repeat([]string{"a", "b"}, 32)...))...))
	for _, n := range []int{0, api.MaxSeg + 1, api.MaxSeg + 2, 2 * api.MaxSeg, 1 << 16} {
		wantsWrong(t, n, seg(7, lines(n, line(5, "a"))...))
	}
	wantsWrong(t, "an empty list", seg(7, []api.Assigned{}...))
	wantsWrong(t, "the zero value", segment.Segment{})
}

// places lays a line at the first, a middle, and the last place.
func places(a api.Assigned) []segment.Segment {
	b := line(1, "a")
	return []segment.Segment{seg(3, a), seg(3, a, b, b), seg(3, b, a, b), seg(3, b, b, a)}
}

// P18.1: an ID is 0 to MaxIDs less 1.
func TestIDs(t *testing.T) {
	for _, id := range []int{0, 1, 62, 63} {
		for _, s := range places(line(id, "b")) {
			wantsGood(t, id, s)
		}
	}
	for _, id := range []int{-1, -2, math.MinInt, 64, 65, 128, 1 << 40, 1<<40 + 1, math.MaxInt} {
		for _, s := range places(line(id, "b")) {
			wantsWrong(t, id, s)
		}
	}
}

// P18.1: at most MaxParts Vars, each of at most MaxLine bytes.
func TestVars(t *testing.T) {
	for _, n := range []int{0, 1, 63, 64} {
		for _, s := range places(line(2, make([]string, n)...)) {
			wantsGood(t, n, s)
		}
	}
	for _, n := range []int{65, 66, 1000, 1 << 16} {
		for _, s := range places(line(2, make([]string, n)...)) {
			wantsWrong(t, n, s)
		}
	}
	for _, n := range []int{0, 1, 255, 256} {
		for _, a := range []api.Assigned{line(2, long(n)), line(2, long(n), "b"), line(2, "b", long(n))} {
			for _, s := range places(a) {
				wantsGood(t, n, s)
			}
		}
	}
	for _, n := range []int{257, 258, 1 << 12, 1<<12 + 1, 1 << 20} {
		for _, a := range []api.Assigned{line(2, long(n)), line(2, long(n), "b"), line(2, "b", long(n))} {
			for _, s := range places(a) {
				wantsWrong(t, n, s)
			}
		}
	}
}

// P18.1: to the byte, the Sum too.
func TestEncode(t *testing.T) {
	for _, at := range []struct {
		s    segment.Segment
		want string
	}{
		{seg(0, line(0)), "\x00" + "\x03\x00\x01\x00" + "\x03\x00\x01\x00" + "\x04\x00\x02\x00\x00"},
		{seg(300, line(1, "3"), line(1, "4")), "\xac\x02" + "\x04\x00\x02\x01\x01" + "\x04\x00\x02\x01\x01" + "\x0a\x02\x013\x014\x04\x00\x02\x00\x01"},
		{seg(2, line(5, "b", "a"), line(4), line(5, "a", "")), "\x02" + "\x05\x00\x03\x05\x04\x05" + "\x05\x00\x03\x02\x00\x02" + "\x0d\x03\x00\x01a\x01b\x06\x00\x04\x02\x01\x01\x00"},
		{seg(1, lines(5, line(9, "x"))...), "\x01" + "\x04\x02\x01\x05\x09" + "\x04\x02\x01\x05\x01" + "\x08\x01\x01x\x04\x02\x01\x05\x00"},
	} {
		if b, e := segment.Encode(at.s); e != api.OK || string(b) != string(summed([]byte(at.want))) {
			t.Errorf("Encode of %s: error %d, %x, want %x", tell(at.s), e, b, summed([]byte(at.want)))
		}
		wantsGood(t, "to the byte", at.s)
	}
	if b, _ := segment.Encode(seg(0, line(0))); string(b) != "\x00\x03\x00\x01\x00\x03\x00\x01\x00\x04\x00\x02\x00\x00"+"\x16\x8f\x01\xc4" {
		t.Errorf("%x", b)
	}
}

// joined holds what Join tells against all lines.
func joined(t *testing.T, what any, l ...segment.Segment) {
	t.Helper()
	want := seg(l[0].First)
	for _, s := range l {
		want.Lines = append(want.Lines, s.Lines...)
	}
	if s, e := segment.Join(l...); e != api.OK || tell(s) != tell(want) {
		t.Errorf("%v: error %d, %s, want %s", what, e, short(tell(s)), short(tell(want)))
	}
}

func notJoined(t *testing.T, what any, l ...segment.Segment) {
	t.Helper()
	if s, e := segment.Join(l...); e != api.ErrArg || s.First != 0 || len(s.Lines) > 0 {
		t.Errorf("%v: error %d, %s", what, e, short(tell(s)))
	}
}

// P18.2: none, one, several; one that does not begin where the one ahead ends.
func TestJoin(t *testing.T) {
	a, b, c := seg(5, line(1, "a"), line(2, "b", "")), seg(7, line(0)), seg(8, line(3, "x"), line(1, "a"), line(63))
	notJoined(t, "none")
	notJoined(t, "none", []segment.Segment{}...)
	for _, s := range several() {
		joined(t, "one", s)
	}
	joined(t, "two", a, b)
	joined(t, "two", b, c)
	joined(t, "three", a, b, c)
	for _, l := range [][]segment.Segment{{b, a}, {a, c}, {a, b, a}, {a, a}, {a, b, b, c}, {c, b, a}, {b, c, c}, {a, b, c, b}} {
		notJoined(t, "in no row", l...)
	}
	for _, n := range []int{-1, 0, 4, 5, 6, 8, api.MaxIndex, math.MaxInt, math.MinInt} {
		notJoined(t, n, a, seg(n, line(0)))
		notJoined(t, n, a, seg(n, line(0)), c)
		notJoined(t, n, a, seg(7, line(0), line(0)), seg(n, line(0)))
	}
	last := seg(api.MaxIndex-2, line(1), line(2))
	joined(t, "the last that may begin", last, seg(api.MaxIndex, line(3), line(4)))
	notJoined(t, "one that begins behind that", seg(api.MaxIndex, line(3)), seg(api.MaxIndex+1, line(3)))
	joined(t, "from 0", seg(0, line(3)), seg(1, line(3)))
	notJoined(t, "from below 0", seg(-1, line(3)), seg(0, line(3)))
}

// P18.2: one that may not be, at each place.
func TestJoinOfWrong(t *testing.T) {
	wrong := []api.Assigned{line(64), line(-1), line(1, long(257)), line(1, make([]string, 65)...)}
	for _, a := range wrong {
		notJoined(t, tell(seg(0, a)), seg(5, a))
		notJoined(t, tell(seg(0, a)), seg(5, a), seg(6, line(1)), seg(7, line(1)))
		notJoined(t, tell(seg(0, a)), seg(5, line(1)), seg(6, a), seg(7, line(1)))
		notJoined(t, tell(seg(0, a)), seg(5, line(1)), seg(6, line(1)), seg(7, a))
	}
	notJoined(t, "of no line", seg(5), seg(5, line(1)))
	notJoined(t, "of no line", seg(5, line(1)), seg(6), seg(6, line(1)))
	notJoined(t, "of no line", seg(5, line(1)), seg(6))
	notJoined(t, "of no line alone", seg(0))
}

// P18.2: at most MaxSeg lines together.
func TestJoinCounts(t *testing.T) {
	of := func(counts ...int) []segment.Segment {
		var l []segment.Segment
		at := 9
		for _, n := range counts {
			l = append(l, seg(at, lines(n, line(2, "v"))...))
			at += n
		}
		return l
	}
	for _, l := range [][]int{{512}, {511, 1}, {1, 511}, {256, 256}, {200, 200, 112}, slices.Repeat([]int{1}, 512)} {
		joined(t, len(l), of(l...)...)
	}
	for _, l := range [][]int{{512, 1}, {1, 512}, {257, 256}, {512, 512}, {200, 200, 113}, slices.Repeat([]int{1}, 513), slices.Repeat([]int{512}, 20), {513}, {1, 513}} {
		notJoined(t, fmt.Sprint(len(l), " of too many"), of(l...)...)
	}
}

// P18.2: field by field, whether they may be or not.
func TestSame(t *testing.T) {
	all := append(several(), segment.Segment{}, seg(-1), seg(1), seg(5, line(1, "3"), line(1, "5")), seg(5, line(1, "3"), line(2, "4")), seg(6, line(1, "3"), line(1, "4")),
		seg(5, line(1, "3")), seg(5, line(1, "3"), line(1, "4"), line(0)), seg(5, line(1, "3"), line(1)), seg(5, line(1, "3"), line(1, "4", "")), seg(5, line(1, "4"), line(1, "3")), seg(5, line(-7, "3"), line(1, "4")),
		seg(0, line(0, "")), seg(0, line(0, "", "")), seg(0, line(0, "a", "b")), seg(0, line(0, "ab", "")), seg(0, line(0, "", "ab")), seg(0, line(0), line(0)))
	for i, a := range all {
		for k, b := range all {
			if got := segment.Same(a, b); got != (i == k) {
				t.Errorf("Same of %s and %s: %v", short(tell(a)), short(tell(b)), got)
			}
		}
	}
	if !segment.Same(seg(0, line(3)), seg(0, api.Assigned{ID: 3, Vars: []string{}})) || !segment.Same(seg(1), segment.Segment{First: 1, Lines: []api.Assigned{}}) {
		t.Error("nil and empty are told apart")
	}
}

// P18.1, P18.3: segments by chance.
func TestByChance(t *testing.T) {
	r := rand.New(rand.NewSource(181))
	for range 2000 {
		a, b := byChance(r), byChance(r)
		wantsGood(t, "by chance", a)
		if segment.Same(a, b) != (tell(a) == tell(b)) {
			t.Errorf("%s and %s", tell(a), tell(b))
		}
		b.First = a.First + len(a.Lines)
		joined(t, "by chance", a, b)
	}
}

// spoil writes over all of a segment, spare room too.
func spoil(s segment.Segment) {
	for i := range s.Lines {
		vars := s.Lines[i].Vars
		for k := range vars[:cap(vars)] {
			vars[:cap(vars)][k] = "spoilt"
		}
	}
	for i := range s.Lines[:cap(s.Lines)] {
		s.Lines[:cap(s.Lines)][i] = line(60, "spoilt")
	}
}

// roomy is a segment like one, with spare room behind each of its lists.
func roomy(s segment.Segment) segment.Segment {
	other := segment.Segment{First: s.First, Lines: make([]api.Assigned, 0, len(s.Lines)+3)}
	for _, a := range s.Lines {
		vars := append(make([]string, 0, len(a.Vars)+3), a.Vars...)
		vars[:cap(vars)][len(vars)] = "spare"
		other.Lines = append(other.Lines, api.Assigned{ID: a.ID, Vars: vars})
	}
	other.Lines[:cap(other.Lines)][len(s.Lines)] = line(7, "spare")
	return other
}

// wantsRoom holds that nothing has written on a segment that roomy made.
func wantsRoom(t *testing.T, s, want segment.Segment) {
	t.Helper()
	if tell(s) != tell(want) || tell(seg(0, s.Lines[:cap(s.Lines)][len(s.Lines)])) != tell(seg(0, line(7, "spare"))) {
		t.Errorf("%s became %s", tell(want), tell(s))
	}
	for _, a := range s.Lines {
		if a.Vars[:cap(a.Vars)][len(a.Vars)] != "spare" {
			t.Errorf("behind %q stands %q", a.Vars, a.Vars[:cap(a.Vars)])
		}
	}
}

// P18.3: what is handed in is neither changed nor kept; what is answered is new memory.
func TestMemory(t *testing.T) {
	for _, s := range several() {
		want := tell(s)
		in := roomy(s)
		segment.Is(in)
		segment.Same(in, in)
		b, _ := segment.Encode(in)
		j, e := segment.Join(in)
		wantsRoom(t, in, s)
		spoil(in)
		if !slices.Equal(b, encode(s)) || e != api.OK || tell(j) != want {
			t.Errorf("%s became %x, %s", want, b, tell(j))
		}
		for i := range j.Lines {
			spoil(segment.Segment{Lines: j.Lines[i : i+1 : i+1]})
			for k := i + 1; k < len(j.Lines); k++ {
				if tell(seg(0, j.Lines[k])) != tell(seg(0, s.Lines[k])) {
					t.Errorf("line %d of Join shares with line %d", k, i)
				}
			}
		}
		bytes := append(make([]byte, 0, len(b)+9), b...)
		bytes[:cap(bytes)][len(b)] = 77
		got, _ := segment.Decode(bytes)
		two, _ := segment.Decode(bytes)
		if !slices.Equal(bytes, b) || bytes[:cap(bytes)][len(b)] != 77 {
			t.Errorf("%x changed to %x", b, bytes)
		}
		for i := range bytes[:cap(bytes)] {
			bytes[:cap(bytes)][i] = 'x'
		}
		if tell(got) != want {
			t.Errorf("%s became %s", want, tell(got))
		}
		for i := range got.Lines {
			spoil(segment.Segment{Lines: got.Lines[i : i+1 : i+1]})
			for k := i + 1; k < len(got.Lines); k++ {
				if tell(seg(0, got.Lines[k])) != tell(seg(0, s.Lines[k])) {
					t.Errorf("line %d of Decode shares with line %d", k, i)
				}
			}
		}
		spoil(got)
		if tell(two) != want {
			t.Errorf("%s became %s", want, tell(two))
		}
		for i := range b[:cap(b)] {
			b[:cap(b)][i] = 'x'
		}
		wantsGood(t, "again", s)
	}
}

// P18.3: of several, too, Join shares nothing with them.
func TestJoinMemory(t *testing.T) {
	a, b := seg(5, line(1, "a", "b")), seg(6, line(2, "c"), line(3, "d"))
	in := []segment.Segment{roomy(a), roomy(b)}
	j, _ := segment.Join(in...)
	two, _ := segment.Join(in...)
	wantsRoom(t, in[0], a)
	wantsRoom(t, in[1], b)
	spoil(j)
	wantsRoom(t, in[0], a)
	wantsRoom(t, in[1], b)
	spoil(in[0])
	spoil(in[1])
	if want := tell(seg(5, line(1, "a", "b"), line(2, "c"), line(3, "d"))); tell(two) != want {
		t.Errorf("%s, want %s", tell(two), want)
	}
}

// W2: what is told does not depend on what was asked ahead, nor on who asks meanwhile.
func TestTogether(t *testing.T) {
	var all sync.WaitGroup
	for seed := range 4 {
		all.Go(func() {
			r := rand.New(rand.NewSource(int64(seed)))
			for range 200 {
				wantsGood(t, "together", byChance(r))
				wantsBad(t, "nothing", nil)
			}
		})
	}
	all.Wait()
}

package manifest_test

import (
	"fmt"
	"math"
	"math/rand"
	"slices"
	"sync"
	"testing"

	"winnower/api"
	"winnower/manifest"
)

// The example: P21.1.
func TestExample(t *testing.T) {
	if n := made(3, 5, grown(), 3, 4).End(); n != 12 {
		t.Error(n)
	}
}

// P21.1: Next is 1 to 2^30.
func TestNext(t *testing.T) {
	for _, n := range []int{1, 2, 127, 128, 1<<30 - 1, 1 << 30} {
		wantsGood(t, n, made(n, 5, grown()))
	}
	for _, n := range []int{0, -1, math.MinInt, 1<<30 + 1, 1 << 31, 1 << 40, 1 << 62, math.MaxInt} {
		wantsWrong(t, n, made(n, 5, grown()))
	}
	for _, n := range []int{1<<30 + 1, 1 << 62} {
		wantsWrong(t, n, made(n, 5, grown(), 3, 4))
	}
}

// P21.1: First is 0 to MaxIndex.
func TestFirst(t *testing.T) {
	for _, n := range []int{0, 1, 127, 128, api.MaxIndex - 1, api.MaxIndex} {
		wantsGood(t, n, made(9, n, grown()))
		wantsGood(t, n, made(9, n, grown(), 3))
	}
	for _, n := range []int{-1, math.MinInt, api.MaxIndex + 1, 1 << 40, 1 << 62, math.MaxInt} {
		wantsWrong(t, n, made(9, n, grown()))
		wantsWrong(t, n, made(9, n, grown(), 3))
	}
}

// P21.1: spans that may not be.
func TestSpans(t *testing.T) {
	of := func(first int, l ...api.Span) manifest.Manifest {
		return manifest.Manifest{Next: 100, First: first, Spans: l, Tree: grown()}
	}
	wantsGood(t, "none", of(7))
	wantsGood(t, "none", of(7, []api.Span{}...))
	wantsGood(t, "one", of(7, span(3, 7, 1)))
	wantsGood(t, "in no order", of(7, span(3, 7, 1), span(1, 8, 512), span(2, 520, 1)))
	for _, l := range [][]api.Span{
		{span(0, 7, 1)}, {span(-1, 7, 1)}, {span(3, 7, 0)}, {span(3, 7, 513)}, {span(3, 7, -1)}, {span(3, 7, math.MaxInt)},
		{span(3, 7, 1), span(3, 8, 1)}, {span(3, 7, 1), span(4, 9, 1)}, {span(3, 7, 2), span(4, 8, 1)}, {span(3, 7, 1), span(4, 7, 1)},
		{span(3, 7, 1), span(4, 8, 1), span(3, 9, 1)}, {span(3, 7, 1), span(4, 8, 513)}, {span(3, 7, 1), span(0, 8, 1)}, {{}},
	} {
		wantsWrong(t, l, of(7, l...))
	}
	wantsWrong(t, "the second begins too far", of(api.MaxIndex, span(3, api.MaxIndex, 1), span(4, api.MaxIndex+1, 1)))
	wantsGood(t, "the second begins at MaxIndex", of(api.MaxIndex-1, span(3, api.MaxIndex-1, 1), span(4, api.MaxIndex, 1)))
}

// P21.1: each ID is below Next.
func TestIDs(t *testing.T) {
	for _, next := range []int{5, 200, 1 << 30} {
		for at := range 3 {
			for id := next - 2; id < next+3; id++ {
				m := manifest.Manifest{Next: next, First: 7, Spans: chain(7, 1, 1, 1), Tree: grown()}
				for k := range m.Spans {
					m.Spans[k].ID = k + 1
				}
				m.Spans[at].ID = id
				if id > 3 && id < next {
					wantsGood(t, id, m)
				}
				if id >= next {
					wantsWrong(t, id, m)
				}
			}
		}
	}
	wantsWrong(t, "Next 1 has none", made(1, 7, grown(), 1))
	wantsGood(t, "Next 2 has one", made(2, 7, grown(), 1))
	wantsWrong(t, "Next 2 has one", made(2, 7, grown(), 1, 1))
	wantsWrong(t, "MaxIndex may be an ID of spans, but of no manifest", manifest.Manifest{Next: 1 << 30, First: 7, Spans: []api.Span{span(api.MaxIndex, 7, 1)}, Tree: grown()})
}

// P21.1: the first one begins at First.
func TestBegin(t *testing.T) {
	for _, first := range []int{0, 1, 6, 8, 10, 12, -1, api.MaxIndex} {
		m := made(9, 7, grown(), 3, 2)
		m.First = first
		wantsWrong(t, first, m)
	}
	m := made(9, 7, grown(), 3, 2)
	wantsGood(t, "at First", m)
	m.Spans = m.Spans[1:]
	wantsWrong(t, "behind First", m)
	m.First = 10
	wantsGood(t, "at First", m)
}

// P21.1: Tree is Encode of a tree.
func TestTree(t *testing.T) {
	for _, tree := range [][]byte{grown(), grown("up 3"), grown("up 3", "up 4", "up x y", "down", "3", "-", "a b c d", "a b x y")} {
		wantsGood(t, tree, made(9, 7, tree))
		wantsGood(t, tree, made(9, 7, tree, 3, 2))
		for n := range tree {
			wantsWrong(t, n, made(9, 7, tree[:n], 3))
		}
		wantsWrong(t, "one byte more", made(9, 7, append(slices.Clone(tree), 0), 3))
	}
	for _, tree := range [][]byte{nil, {}, {0}, {1}, {0, 0}, {2, 0}, {1, 1}, {0x81, 0, 0}, {1, 0x80, 0}, make([]byte, 1000)} {
		wantsWrong(t, tree, made(9, 7, tree))
		wantsWrong(t, tree, made(9, 7, tree, 3, 2))
	}
	wantsWrong(t, "the zero value", manifest.Manifest{})
}

// P21.1: where the last one ends; First, if there is none.
func TestEnd(t *testing.T) {
	for _, at := range []struct {
		m    manifest.Manifest
		want int
	}{
		{manifest.Manifest{}, 0}, {manifest.Manifest{First: 7}, 7}, {manifest.Manifest{First: -7, Next: 9}, -7},
		{made(9, 0, nil, 1), 1}, {made(9, 7, nil, 3), 10}, {made(9, 7, nil, 3, 4), 14}, {made(9, 7, nil, 3, 4, 512, 1), 527},
		{made(9, api.MaxIndex, nil, 512), api.MaxIndex + 512}, {manifest.Manifest{First: 3, Spans: []api.Span{span(1, 50, 5), span(1, 20, 2)}}, 22},
	} {
		if got := at.m.End(); got != at.want {
			t.Errorf("End of %s: %d, want %d", tell(at.m), got, at.want)
		}
	}
}

// What embeds a manifest has its End.
func TestEmbedded(t *testing.T) {
	has := struct {
		manifest.Manifest
		more int
	}{made(9, 7, grown(), 3, 4), 1}
	if has.End() != 14 || has.First != 7 || len(has.Spans) != 2 || !manifest.Is(has.Manifest) {
		t.Error(has.End(), has.First, has.Spans)
	}
}

// P21.1: to the byte, the Sum too.
func TestEncode(t *testing.T) {
	for _, at := range []struct {
		m    manifest.Manifest
		want string
	}{
		{made(1, 0, grown()), "\x01\x00\x00" + "\x02\x01\x00"},
		{made(4, 300, grown(), 3, 400), "\x04\xac\x02\x02" + "\x01\x03\x02\x90\x03" + "\x02\x01\x00"},
		{manifest.Manifest{Next: 1 << 30, First: 1 << 35, Spans: []api.Span{span(200, 1<<35, 512)}, Tree: grown("7")}, "\x80\x80\x80\x80\x04\x80\x80\x80\x80\x80\x01\x01" + "\xc8\x01\x80\x04" + "\x0a\x02\x01\x01\x01\x01\x01*\x00\x01\x01"},
	} {
		if b, e := manifest.Encode(at.m); e != api.OK || string(b) != string(summed([]byte(at.want))) {
			t.Errorf("Encode of %s: error %d, %x, want %x", tell(at.m), e, b, summed([]byte(at.want)))
		}
		wantsGood(t, "to the byte", at.m)
	}
	many := manifest.Manifest{Next: 3000, First: 7, Spans: chain(7, slices.Repeat([]int{9}, 2500)...), Tree: grown("up 3")}
	wantsGood(t, "many spans", many)
	slices.Reverse(many.Spans)
	wantsWrong(t, "many spans, turned", many)
}

// P21.1: field by field, whether they may be or not.
func TestSame(t *testing.T) {
	all := append(several(), manifest.Manifest{}, made(4, 5, grown(), 3, 4, 301), made(5, 5, grown(), 3, 4, 300), made(4, 6, grown(), 3, 4, 300), made(4, 5, grown(), 3, 4), made(4, 5, grown()), made(4, 5, grown("7"), 3, 4, 300), made(4, 5, nil, 3, 4, 300),
		manifest.Manifest{Next: 4, First: 6, Spans: chain(5, 3, 4, 300), Tree: grown()}, manifest.Manifest{Next: 1}, manifest.Manifest{First: 1}, manifest.Manifest{Tree: []byte{0}}, manifest.Manifest{Tree: []byte{1}}, manifest.Manifest{Spans: []api.Span{{}}},
		manifest.Manifest{Spans: []api.Span{{ID: 1}}}, manifest.Manifest{Spans: []api.Span{{First: 1}}}, manifest.Manifest{Spans: []api.Span{{Count: 1}}}, manifest.Manifest{Spans: []api.Span{{Count: 1}, {}}}, manifest.Manifest{Spans: []api.Span{{}, {Count: 1}}})
	for i, a := range all {
		for k, b := range all {
			if got := manifest.Same(a, b); got != (i == k) {
				t.Errorf("Same of %s and %s: %v", short(tell(a)), short(tell(b)), got)
			}
		}
	}
	if !manifest.Same(manifest.Manifest{Next: 2}, manifest.Manifest{Next: 2, Spans: []api.Span{}, Tree: []byte{}}) {
		t.Error("nil and empty are told apart")
	}
}

// P21.1, P21.2: manifests by chance.
func TestByChance(t *testing.T) {
	r := rand.New(rand.NewSource(211))
	for range 300 {
		a, b := byChance(r), byChance(r)
		wantsGood(t, "by chance", a)
		if manifest.Same(a, b) != (tell(a) == tell(b)) {
			t.Errorf("%s and %s", tell(a), tell(b))
		}
		p := laid(a)
		for range 1 + r.Intn(2) {
			p[r.Intn(len(p))] = byte(r.Intn(8))
		}
		wantsDecode(t, "spoilt by chance", summed(p))
	}
	for range 10000 {
		p := make([]byte, r.Intn(12))
		for i := range p {
			p[i] = byte(r.Intn(4))
		}
		wantsDecode(t, "by chance", p)
		wantsDecode(t, "by chance", summed(p))
	}
}

// P21.1: each prefix, each byte more, another byte at each place, a byte gone: the Sum is another one.
func TestSpoilt(t *testing.T) {
	for _, m := range several() {
		good, _ := manifest.Encode(m)
		wantsDecoded(t, "good", good, m)
		for n := range good {
			wantsBad(t, fmt.Sprint("the first ", n, " bytes"), good[:n])
			wantsBad(t, fmt.Sprint("without ", n), slices.Delete(slices.Clone(good), n, n+1))
		}
		for b := range 256 {
			wantsBad(t, fmt.Sprint("one more: ", b), append(slices.Clone(good), byte(b)))
			for at, old := range good {
				if old == byte(b) {
					continue
				}
				spoilt := slices.Clone(good)
				spoilt[at] = byte(b)
				wantsBad(t, fmt.Sprint(b, " at ", at), spoilt)
			}
		}
		n := len(good) - 4
		wantsBad(t, "the Sum turned", slices.Concat(good[:n], []byte{good[n+3], good[n+2], good[n+1], good[n]}))
		wantsBad(t, "the Sum twice", summed(good))
		wantsBad(t, "no Sum", good[:n])
	}
	wantsBad(t, "nothing", nil)
	wantsBad(t, "nothing", []byte{})
	wantsBad(t, "a Sum of nothing", summed(nil))
	wantsBad(t, "noughts", make([]byte, 30))
}

// P21.1: the same with the Sum put right: numbers that are not in their shortest way, manifests that may not be.
func TestSpoiltUnderTheSum(t *testing.T) {
	for _, m := range several() {
		good := laid(m)
		for n := range good {
			wantsBad(t, fmt.Sprint("the first ", n, " bytes"), summed(good[:n]))
			wantsDecode(t, fmt.Sprint("without ", n), summed(slices.Delete(slices.Clone(good), n, n+1)))
			for _, more := range []string{"\x00", "\x80\x00", "\x80\x80\x80\x80\x80\x80\x80\x80\x00"} {
				wantsDecode(t, fmt.Sprint("long at ", n), summed(slices.Concat(good[:n], []byte{good[n] | 0x80}, []byte(more), good[n+1:])))
			}
			for _, other := range []string{"\x80\x80\x80\x80\x80\x80\x80\x80\x40", "\xff\xff\xff\xff\xff\xff\xff\xff\x3f", "\x81\x80\x80\x80\x80\x80\x80\x80\x40", "\x80\x80\x80\x80\x80\x01", "\x81\x80\x80\x80\x80\x01", "\x81\x80\x80\x80\x04"} {
				wantsDecode(t, fmt.Sprint("another at ", n), summed(slices.Concat(good[:n], []byte(other), good[n+1:])))
			}
		}
		for b := range 256 {
			wantsBad(t, fmt.Sprint("one more: ", b), summed(append(slices.Clone(good), byte(b))))
			for at := range good {
				spoilt := slices.Clone(good)
				spoilt[at] = byte(b)
				wantsDecode(t, fmt.Sprint(b, " at ", at), summed(spoilt))
				wantsDecode(t, fmt.Sprint(b, " ahead of ", at), summed(slices.Insert(slices.Clone(good), at, byte(b))))
			}
		}
	}
	for _, s := range []string{"\x81\x00\x00\x00\x02\x01\x00", "\x01\x80\x00\x00\x02\x01\x00", "\x01\x00\x80\x00\x02\x01\x00", "\x01\x00\x00\x82\x00\x01\x00", "\x02\x00\x01\x81\x00\x01\x02\x01\x00", "\x02\x00\x01\x01\x81\x00\x02\x01\x00"} {
		wantsBad(t, "not the shortest way", summed([]byte(s)))
	}
	wantsDecoded(t, "the shortest way", summed([]byte("\x02\x00\x01\x01\x01\x02\x01\x00")), made(2, 0, grown(), 1))
	wantsBad(t, "far more spans than there are", summed(nums(9, 0, 1<<62, 1, 1, 2, 1, 0)))
	wantsBad(t, "far greater counts than may be", summed(append(nums(9, 0, 3, 1, 1<<62, 2, 1<<62, 3, 1<<62), 2, 1, 0)))
}

// P21.1: Decode of manifests that may not be, else laid as they should.
func TestDecodeOfWrong(t *testing.T) {
	for _, m := range []manifest.Manifest{
		made(0, 5, grown()), made(1<<30+1, 5, grown()), made(9, api.MaxIndex+1, grown()), made(3, 5, grown(), 1, 1, 1), made(9, 5, grown(), 513), made(9, 5, grown(), 1, 0, 1),
		{Next: 9, First: 5, Spans: []api.Span{span(1, 5, 1), span(1, 6, 1)}, Tree: grown()}, {Next: 9, First: 5, Spans: []api.Span{span(0, 5, 1)}, Tree: grown()},
		made(9, 5, nil), made(9, 5, []byte{0}), made(9, 5, []byte{2, 0}, 3),
		{Next: 9, First: api.MaxIndex, Spans: chain(api.MaxIndex, 1, 1), Tree: grown()},
	} {
		wantsWrong(t, "may not be", m)
		wantsBad(t, tell(m), encode(m))
	}
}

// P21.2: what is handed in is neither changed nor kept; what is answered is new memory.
func TestMemory(t *testing.T) {
	for _, m := range several() {
		want := tell(m)
		in := m
		in.Spans = append(make([]api.Span, 0, len(m.Spans)+2), m.Spans...)
		in.Spans[:cap(in.Spans)][len(m.Spans)] = span(77, 7, 7)
		in.Tree = append(make([]byte, 0, len(m.Tree)+2), m.Tree...)
		in.Tree[:cap(in.Tree)][len(m.Tree)] = 77
		spoil := func(m manifest.Manifest) {
			for i := range m.Spans[:cap(m.Spans)] {
				m.Spans[:cap(m.Spans)][i] = span(55, 5, 5)
			}
			for i := range m.Tree[:cap(m.Tree)] {
				m.Tree[:cap(m.Tree)][i] = 'x'
			}
		}
		manifest.Is(in)
		manifest.Same(in, in)
		in.End()
		b, _ := manifest.Encode(in)
		if tell(in) != want || in.Spans[:cap(in.Spans)][len(m.Spans)] != span(77, 7, 7) || in.Tree[:cap(in.Tree)][len(m.Tree)] != 77 {
			t.Errorf("%s became %s", want, tell(in))
		}
		spoil(in)
		if !slices.Equal(b, encode(m)) {
			t.Errorf("%s became %x", want, b)
		}
		bytes := append(make([]byte, 0, len(b)+9), b...)
		bytes[:cap(bytes)][len(b)] = 77
		got, _ := manifest.Decode(bytes)
		two, _ := manifest.Decode(bytes)
		if !slices.Equal(bytes, b) || bytes[:cap(bytes)][len(b)] != 77 {
			t.Errorf("%x changed to %x", b, bytes)
		}
		for i := range bytes[:cap(bytes)] {
			bytes[:cap(bytes)][i] = 'x'
		}
		if tell(got) != want {
			t.Errorf("%s became %s", want, tell(got))
		}
		spoil(got)
		if tell(two) != want {
			t.Errorf("%s became %s", want, tell(two))
		}
		for i := range b[:cap(b)] {
			b[:cap(b)][i] = 'x'
		}
		wantsGood(t, "again", m)
	}
}

// W2: what is told does not depend on what was asked ahead, nor on who asks meanwhile.
func TestTogether(t *testing.T) {
	var all sync.WaitGroup
	for seed := range 4 {
		all.Go(func() {
			r := rand.New(rand.NewSource(int64(seed)))
			for range 20 {
				wantsGood(t, "together", byChance(r))
				wantsBad(t, "nothing", nil)
			}
		})
	}
	all.Wait()
}

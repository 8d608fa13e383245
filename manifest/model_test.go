package manifest_test

import (
	"encoding/binary"
	"fmt"
	"hash/crc32"
	"math/rand"
	"slices"
	"testing"

	"winnower/api"
	"winnower/lexer"
	"winnower/manifest"
	"winnower/plan"
	"winnower/tree"
)

func span(id, first, count int) api.Span { return api.Span{ID: id, First: first, Count: count} }

// chain is spans from a line on, one behind the other, numbered from 1.
func chain(first int, counts ...int) []api.Span {
	var l []api.Span
	for k, n := range counts {
		l = append(l, span(k+1, first, n))
		first += n
	}
	return l
}

// grown is a tree of some lines, as bytes.
func grown(lines ...string) []byte {
	x, k := lexer.New(), tree.New()
	for _, s := range lines {
		tokens, _ := x.Lex(s)
		k.Assign(tokens...)
	}
	return k.Encode()
}

// made is a manifest of spans from a line on, and of a tree.
func made(next, first int, tree []byte, counts ...int) manifest.Manifest {
	return manifest.Manifest{Next: next, First: first, Spans: chain(first, counts...), Tree: tree}
}

// nums is numbers as bytes: seven digits each, the lowest first.
func nums(l ...int) []byte {
	var b []byte
	for _, n := range l {
		for ; n >= 128; n /= 128 {
			b = append(b, byte(n%128+128))
		}
		b = append(b, byte(n))
	}
	return b
}

// summed is bytes, and their Sum behind them.
func summed(b []byte) []byte {
	return binary.LittleEndian.AppendUint32(slices.Clone(b), crc32.ChecksumIEEE(b))
}

// laid is a manifest ahead of its Sum, whether it may be or not.
func laid(m manifest.Manifest) []byte {
	b := nums(m.Next, m.First, len(m.Spans))
	for _, s := range m.Spans {
		b = append(b, nums(s.ID, s.Count)...)
	}
	return append(append(b, nums(len(m.Tree))...), m.Tree...)
}

func encode(m manifest.Manifest) []byte { return summed(laid(m)) }

// may is what Is tells, look by look.
func may(m manifest.Manifest) bool {
	if m.Next < 1 || m.Next > 1<<30 || m.First < 0 || m.First > 1<<35 || !plan.Is(m.Spans...) {
		return false
	}
	for k, s := range m.Spans {
		if s.ID > m.Next-1 || k == 0 && s.First != m.First {
			return false
		}
	}
	t, e := tree.Decode(m.Tree)
	return e == api.OK && slices.Equal(t.Encode(), m.Tree)
}

// take takes a number in its shortest way.
func take(b []byte) (n int, rest []byte, ok bool) {
	for i := 0; i < len(b) && i < 9; i++ {
		n += int(b[i]%128) << (7 * i)
		if b[i] < 128 {
			return n, b[i+1:], n <= 1<<62 && (i == 0 || b[i] > 0)
		}
	}
	return 0, nil, false
}

// decode is what Decode tells, look by look.
func decode(b []byte) (m manifest.Manifest, ok bool) {
	if len(b) < 4 || !slices.Equal(summed(b[:len(b)-4]), b) {
		return m, false
	}
	b = b[:len(b)-4]
	var count, size int
	for _, to := range []*int{&m.Next, &m.First, &count} {
		if *to, b, ok = take(b); !ok {
			return m, false
		}
	}
	if count > len(b) {
		return m, false
	}
	at := m.First
	for range count {
		s := span(0, at, 0)
		for _, to := range []*int{&s.ID, &s.Count} {
			if *to, b, ok = take(b); !ok {
				return m, false
			}
		}
		if s.Count > 512 {
			return m, false
		}
		m.Spans = append(m.Spans, s)
		at += s.Count
	}
	if size, b, ok = take(b); !ok || size != len(b) {
		return m, false
	}
	m.Tree = slices.Clone(b)
	return m, may(m)
}

// tell is all of a manifest as a text.
func tell(m manifest.Manifest) string {
	return fmt.Sprintf("%d %d %v %x", m.Next, m.First, append([]api.Span{}, m.Spans...), m.Tree)
}

func short(s string) string { return fmt.Sprintf("%.300s (%d)", s, len(s)) }

// wantsGood holds that a manifest may be, is laid as plain words lay it, and taken again.
func wantsGood(t *testing.T, what any, m manifest.Manifest) {
	t.Helper()
	if !manifest.Is(m) || !may(m) {
		t.Errorf("%v: %s is none", what, short(tell(m)))
	}
	b, e := manifest.Encode(m)
	if want := encode(m); e != api.OK || !slices.Equal(b, want) {
		t.Errorf("%v: Encode of %s: error %d, %.300x, want %.300x", what, short(tell(m)), e, b, want)
		return
	}
	wantsDecoded(t, what, b, m)
}

// wantsWrong holds that a manifest may not be.
func wantsWrong(t *testing.T, what any, m manifest.Manifest) {
	t.Helper()
	if manifest.Is(m) || may(m) {
		t.Errorf("%v: %s is one", what, short(tell(m)))
	}
	if b, e := manifest.Encode(m); e != api.ErrArg || len(b) > 0 {
		t.Errorf("%v: Encode of %s: error %d, %.300x", what, short(tell(m)), e, b)
	}
}

func wantsDecoded(t *testing.T, what any, b []byte, want manifest.Manifest) {
	t.Helper()
	m, e := manifest.Decode(b)
	if e != api.OK || tell(m) != tell(want) || !manifest.Same(m, want) {
		t.Errorf("%v: Decode(%.300x): error %d, %s, want %s", what, b, e, short(tell(m)), short(tell(want)))
	}
}

func wantsBad(t *testing.T, what any, b []byte) {
	t.Helper()
	if m, e := manifest.Decode(b); e != api.ErrForm || m.Next != 0 || m.First != 0 || len(m.Spans) > 0 || len(m.Tree) > 0 {
		t.Errorf("%v: Decode(%.300x): error %d, %s", what, b, e, short(tell(m)))
	}
	if m, ok := decode(b); ok {
		t.Errorf("%v: in plain words %.300x is %s", what, b, short(tell(m)))
	}
}

// wantsDecode holds Decode against plain words.
func wantsDecode(t *testing.T, what any, b []byte) {
	t.Helper()
	if m, ok := decode(b); ok {
		wantsDecoded(t, what, b, m)
	} else {
		wantsBad(t, what, b)
	}
}

// several is manifests of all kinds.
func several() []manifest.Manifest {
	none, some := grown(), grown("up 3", "down", "a b c", "a b d")
	return []manifest.Manifest{
		made(1, 0, none),
		made(4, 5, none, 3, 4, 300),
		made(1<<30, 1<<35, some, 512),
		{Next: 1000, First: 128, Spans: []api.Span{span(999, 128, 2), span(1, 130, 1), span(130, 131, 512)}, Tree: some},
	}
}

// byChance is a manifest that may be.
func byChance(r *rand.Rand) manifest.Manifest {
	var lines []string
	for range r.Intn(4) {
		lines = append(lines, []string{"up 3", "up x", "down", "a b c", "a b d", "7"}[r.Intn(6)])
	}
	m := manifest.Manifest{First: r.Intn(1 << r.Intn(36)), Tree: grown(lines...)}
	at := m.First
	for k := range r.Intn(5) {
		s := span(3*k+r.Intn(3)+1, at, 1+r.Intn(512))
		m.Spans = append(m.Spans, s)
		at += s.Count
	}
	r.Shuffle(len(m.Spans), func(i, k int) { m.Spans[i].ID, m.Spans[k].ID = m.Spans[k].ID, m.Spans[i].ID })
	m.Next = 20 + r.Intn(1<<r.Intn(30))
	return m
}

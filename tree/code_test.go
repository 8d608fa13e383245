package tree_test

import (
	"fmt"
	"math"
	"math/rand"
	"slices"
	"strings"
	"testing"

	"winnower/api"
	"winnower/lexer"
	"winnower/tree"
)

// decoded is the tree of bytes that are one.
func decoded(t *testing.T, b []byte) *tree.Tree {
	t.Helper()
	x, e := tree.Decode(b)
	if e != api.OK || x == nil {
		t.Fatalf("Decode(%x): error %d", b, e)
	}
	return x
}

// wantsDecode holds what Decode tells against plain words.
func wantsDecode(t *testing.T, what any, b []byte) {
	t.Helper()
	p, ok := decode(b)
	x, e := tree.Decode(b)
	if !ok {
		if e != api.ErrForm || x != nil {
			t.Errorf("%v: Decode(%x): error %d, %v", what, b, e, x)
		}
		return
	}
	if e != api.OK || x == nil {
		t.Errorf("%v: Decode(%x): error %d", what, b, e)
		return
	}
	wantsPlain(t, what, x, p)
	if !slices.Equal(x.Encode(), b) {
		t.Errorf("%v: Decode(%x) is %x", what, b, x.Encode())
	}
}

// wantsGood and wantsBad hold that what is put together by hand is a tree, or is none; and that the plain words agree.
func wantsGood(t *testing.T, what string, p *plain) {
	t.Helper()
	b := p.encode()
	if _, e := tree.Decode(b); e != api.OK {
		t.Errorf("%s: Decode(%x): error %d", what, b, e)
	}
	wantsDecode(t, what, b)
}

func wantsBad(t *testing.T, what string, p *plain) {
	t.Helper()
	b := p.encode()
	if x, e := tree.Decode(b); e != api.ErrForm || x != nil {
		t.Errorf("%s: Decode(%x): error %d", what, b, e)
	}
	wantsDecode(t, what, b)
}

// grown is a tree with leaves, groups, and Any; and the same in plain words.
func grown(t *testing.T) (*tree.Tree, *plain) {
	t.Helper()
	x, p := tree.New(), newPlain()
	for _, s := range []string{"up #3", "up #4", "a b c c c c", "a b d d d d", "a b d d d e", "#1", "a", "a b d x x x"} {
		x.Assign(split(s)...)
		p.assign(split(s))
	}
	return x, p
}

// P15.2: to the byte.
func TestEncode(t *testing.T) {
	x := tree.New()
	for _, at := range []struct {
		tokens []api.Token
		want   string
	}{
		{nil, "\x01" + "\x00"},
		{[]api.Token{tok(api.TokWord, "up"), tok(api.TokBlank, " "), tok(api.TokNumber, "3")}, "\x02" + "\x03\x00\x02up\x00\x01 \x01" + "\x01" + "\x03\x02up\x01 \x01\x01"},
		{[]api.Token{tok(api.TokWord, "up"), tok(api.TokBlank, " "), tok(api.TokWord, "x")}, "\x02" + "\x03\x00\x02up\x00\x01 \x01" + "\x01" + "\x03\x02up\x01 \x01\x01"},
		{[]api.Token{tok(api.TokIP, "1.2.3.4")}, "\x03" + "\x03\x00\x02up\x00\x01 \x01" + "\x01\x01" + "\x02" + "\x03\x02up\x01 \x01\x01" + "\x01\x01*\x00\x01\x02"},
		{[]api.Token{tok(api.TokOther, "\xff"), tok(api.TokHex, "0x1")}, "\x04" + "\x03\x00\x02up\x00\x01 \x01" + "\x01\x01" + "\x02\x00\x01\xff\x01" + "\x03" + "\x03\x02up\x01 \x01\x01" + "\x01\x01*\x00\x01\x02" + "\x02\x01\xff\x01*\x01\x03"},
	} {
		x.Assign(at.tokens...)
		if got := x.Encode(); string(got) != at.want {
			t.Errorf("behind %v: %x, want %x", at.tokens, got, at.want)
		}
		wantsDecode(t, at.tokens, x.Encode())
	}
	// A group that moved is at its last template; several groups of one leaf stand in their order; the old templates stay.
	x = tree.New()
	x.Assign(split("a b c c c")...)
	x.Assign(split("a b d d d")...)
	x.Assign(split("a b c c e")...)
	want := "\x04" + "\x05\x00\x01a\x00\x01b\x00\x01c\x00\x01c\x00\x01c" + "\x05\x00\x01a\x00\x01b\x00\x01d\x00\x01d\x00\x01d" + "\x05\x00\x01a\x00\x01b\x00\x01c\x00\x01c\x01" + "\x01" + "\x05\x01a\x01b\x02\x03\x02"
	if got := x.Encode(); string(got) != want {
		t.Errorf("%x, want %x", got, want)
	}
	// A text of more than 127 bytes: its length has two bytes.
	x = tree.New()
	long := strings.Repeat("x", 256)
	x.Assign(words(long)...)
	if got, want := string(x.Encode()), "\x02\x01\x00\x80\x02"+long+"\x01\x01\x80\x02"+long+"\x00\x01\x01"; got != want {
		t.Errorf("%x, want %x", got, want)
	}
	wantsDecode(t, "long", x.Encode())
}

// P15.2, P15.3: Decode of Encode is the tree, and both go on alike.
func TestDecodeOfEncode(t *testing.T) {
	r := rand.New(rand.NewSource(153))
	for range 60 {
		x := tree.New()
		for range r.Intn(200) {
			x.Assign(anyTokens(r)...)
		}
		other := decoded(t, x.Encode())
		if tell(other) != tell(x) {
			t.Errorf("%s became %s", tell(x), tell(other))
		}
		for range 50 {
			tokens := anyTokens(r)
			a, b := x.Assign(tokens...), other.Assign(tokens...)
			if a.ID != b.ID || !slices.Equal(a.Vars, b.Vars) {
				t.Errorf("Assign(%v): %v and %v", tokens, a, b)
			}
		}
		if tell(other) != tell(x) {
			t.Errorf("%s became %s", tell(x), tell(other))
		}
	}
	for _, x := range []*tree.Tree{tree.New(), full(t)} {
		if other := decoded(t, x.Encode()); tell(other) != tell(x) {
			t.Errorf("%s became %s", tell(x), tell(other))
		}
	}
}

// P15.2: each prefix, each byte more, another byte at each place.
func TestSpoilt(t *testing.T) {
	x, p := grown(t)
	wantsPlain(t, "grown", x, p)
	good := x.Encode()
	wantsDecode(t, "good", good)
	decoded(t, good)
	for n := range good {
		if got, e := tree.Decode(good[:n]); e != api.ErrForm || got != nil {
			t.Errorf("Decode of the first %d bytes: error %d", n, e)
		}
		wantsDecode(t, n, good[n:])
	}
	for b := range 256 {
		if got, e := tree.Decode(append(slices.Clone(good), byte(b))); e != api.ErrForm || got != nil {
			t.Errorf("Decode of %d more: error %d", b, e)
		}
		for at := range good {
			spoilt := slices.Clone(good)
			spoilt[at] = byte(b)
			wantsDecode(t, fmt.Sprint(b, " at ", at), spoilt)
			wantsDecode(t, fmt.Sprint(b, " ahead of ", at), slices.Insert(slices.Clone(good), at, byte(b)))
		}
	}
	for at := range good {
		wantsDecode(t, fmt.Sprint("without ", at), slices.Delete(slices.Clone(good), at, at+1))
	}
}

// P15.2: bytes by chance.
func TestDecodeByChance(t *testing.T) {
	r := rand.New(rand.NewSource(154))
	for range 20000 {
		b := make([]byte, r.Intn(20))
		for i := range b {
			b[i] = byte(r.Intn(4))
			if r.Intn(20) == 0 {
				b[i] = byte(r.Intn(256))
			}
		}
		wantsDecode(t, "by chance", b)
	}
	wantsDecode(t, "nothing", nil)
	wantsDecode(t, "nothing", []byte{})
}

// P15.2: each number not in its shortest way, or far too great.
func TestNumbers(t *testing.T) {
	x, _ := grown(t)
	good := x.Encode()
	for at := range good {
		for _, more := range []string{"\x80\x00", "\x80\x80\x00", "\x80\x80\x80\x80\x80\x80\x80\x80\x00", "\x80\x80\x80\x80\x80\x80\x80\x80\x80\x00", "\xff\xff\xff\xff\xff\xff\xff\xff\xff\xff\xff", "\x80\x80\x80\x80\x80\x80\x80\x80\x40", "\x81\x80\x80\x80\x80\x80\x80\x80\x40", "\xff\xff\xff\xff\xff\xff\xff\xff\x3f"} {
			// The number with a 00 behind it, and another number in its place.
			long := slices.Concat(good[:at], []byte{good[at] | 0x80}, []byte(more)[1:], good[at+1:])
			wantsDecode(t, fmt.Sprint("long at ", at), long)
			wantsDecode(t, fmt.Sprint("another at ", at), slices.Concat(good[:at], []byte(more), good[at+1:]))
		}
	}
	for _, s := range []string{"\x81\x00\x00", "\x01\x80\x00", "\x81\x80\x00\x00", "\x02\x81\x00\x01\x00", "\x02\x01\x81\x00\x00", "\x02\x01\x01\x01\x81\x00\x00\x00\x01\x01", "\x02\x01\x01\x01\x01\x00\x00\x81\x00\x01", "\x02\x01\x01\x01\x01\x00\x00\x01\x81\x00", "\x02\x01\x00\x81\x00a\x00", "\x02\x01\x01\x01\x01\x81\x00a\x00\x01\x01", "\x02\x01\x01\x01\x01\x00\x80\x00\x01\x01"} {
		if got, e := tree.Decode([]byte(s)); e != api.ErrForm || got != nil {
			t.Errorf("Decode(%x): error %d", s, e)
		}
		wantsDecode(t, "not the shortest way", []byte(s))
	}
	wantsDecode(t, "the same in the shortest way", []byte("\x02\x01\x01\x01\x01\x00\x00\x01\x01"))
	decoded(t, []byte("\x02\x01\x01\x01\x01\x00\x00\x01\x01"))
	decoded(t, []byte("\x02\x01\x00\x01a\x00"))
}

// rows is n templates, each of a part that is the same text.
func rows(n int, text string) *plain {
	p := newPlain()
	for range n {
		p.templates = append(p.templates, api.Template{{Text: text}})
	}
	return p
}

// P15.2: 1 to MaxIDs templates, each of 1 to MaxParts parts.
func TestDecodeTemplates(t *testing.T) {
	for _, b := range [][]byte{nums(0, 0), nums(0)} {
		if _, e := tree.Decode(b); e != api.ErrForm {
			t.Errorf("no template: error %d", e)
		}
	}
	for _, n := range []int{0, 1, 2, 62, 63} {
		wantsGood(t, fmt.Sprint(n), rows(n, "a"))
	}
	for _, n := range []int{64, 65, 127, 128, 1000} {
		wantsBad(t, fmt.Sprint(n), rows(n, "a"))
	}
	for _, n := range []int{1, 2, 63, 64} {
		for _, part := range []api.Part{{Any: true}, {Text: "a"}} {
			p := newPlain()
			p.templates = append(p.templates, slices.Repeat(api.Template{part}, n), api.Template{{Any: true}})
			wantsGood(t, fmt.Sprint(n, " parts"), p)
		}
	}
	for _, n := range []int{0, 65, 66, 128, 1000} {
		p := newPlain()
		p.templates = append(p.templates, slices.Repeat(api.Template{{Any: true}}, n))
		wantsBad(t, fmt.Sprint(n, " parts"), p)
		p.templates = append(p.templates, api.Template{{Any: true}})
		wantsBad(t, fmt.Sprint(n, " parts and another"), p)
	}
	for _, b := range [][]byte{nums(math.MaxInt >> 1), nums(1<<62, 0), nums(2, 1<<62, 1, 0), nums(2, 1, 0, 1<<62), nums(1, 1<<62)} {
		wantsDecode(t, "far too many", b)
	}
}

// P15.2: 1 of Any, else 0 and a text of 1 to MaxLine bytes.
func TestDecodeParts(t *testing.T) {
	for flag := range 300 {
		b := slices.Concat(nums(2, 1, flag), nums(0))
		if _, e := tree.Decode(b); (e == api.OK) != (flag == 1) {
			t.Errorf("Decode(%x): error %d", b, e)
		}
		wantsDecode(t, flag, b)
		b = slices.Concat(nums(2, 1, flag), row("a"), nums(0))
		if _, e := tree.Decode(b); (e == api.OK) != (flag == 0) {
			t.Errorf("Decode(%x): error %d", b, e)
		}
		wantsDecode(t, flag, b)
	}
	for n, good := range map[int]bool{0: false, 1: true, 2: true, 127: true, 128: true, 255: true, 256: true, 257: false, 258: false, 1000: false} {
		p := rows(1, strings.Repeat("x", n))
		if good {
			wantsGood(t, fmt.Sprint("a text of ", n), p)
		} else {
			wantsBad(t, fmt.Sprint("a text of ", n), p)
		}
		// The text of the last part of the last template is looked at too.
		p = rows(3, "a")
		p.templates[3] = api.Template{{Any: true}, {Text: "b"}, {Text: strings.Repeat("\xff", n)}}
		if good {
			wantsGood(t, fmt.Sprint("a last text of ", n), p)
		} else {
			wantsBad(t, fmt.Sprint("a last text of ", n), p)
		}
	}
}

// P15.2: at most MaxLeaves leaves, no two alike in count and keys, each key of at most MaxLine bytes.
func TestDecodeLeaves(t *testing.T) {
	for _, n := range []int{0, 1, 2, 31, 32, 33, 34, 63} {
		p := rows(63, "a")
		for i := range n {
			p.leaves = append(p.leaves, plainLeaf{1, [2]string{fmt.Sprint("k", i), ""}, []int{63 - i}})
		}
		if n <= 32 {
			wantsGood(t, fmt.Sprint(n, " leaves"), p)
		} else {
			wantsBad(t, fmt.Sprint(n, " leaves"), p)
		}
	}
	for _, n := range []int{0, 1, 255, 256, 257, 258, 1000} {
		for k := range 2 {
			p := rows(2, "a")
			p.leaves = []plainLeaf{{1, [2]string{"a", "b"}, []int{1}}, {1, [2]string{"c", "d"}, []int{2}}}
			p.leaves[1].keys[k] = strings.Repeat("\xff", n)
			if n <= 256 {
				wantsGood(t, fmt.Sprint("a key of ", n), p)
			} else {
				wantsBad(t, fmt.Sprint("a key of ", n), p)
			}
		}
	}
	// Alike in all but one of count and keys they may be; alike in all they may not, wherever they stand.
	p := newPlain()
	p.templates = append(p.templates, template("a"), template("b"), template("c"), template("a b"), template("d"))
	p.leaves = []plainLeaf{{1, [2]string{"x", "y"}, []int{1}}, {1, [2]string{"x", "z"}, []int{2}}, {1, [2]string{"z", "y"}, []int{3}}, {2, [2]string{"x", "y"}, []int{4}}}
	wantsGood(t, "alike in all but one", p)
	apart := p.leaves
	for i := range 3 {
		l := apart[i]
		l.groups = []int{5}
		p.leaves = slices.Concat(apart, []plainLeaf{l})
		wantsBad(t, fmt.Sprint("one more like leaf ", i), p)
		p.leaves = slices.Concat([]plainLeaf{l}, apart)
		wantsBad(t, fmt.Sprint("one ahead like leaf ", i), p)
	}
	p.leaves = slices.Concat(apart, []plainLeaf{{1, [2]string{"xy", ""}, []int{5}}})
	wantsGood(t, "the same bytes parted otherwise", p)
}

// P15.2: 1 to MaxGroups groups, each at a template of its own, not 0, of as many parts as the count.
func TestDecodeGroups(t *testing.T) {
	for _, n := range []int{0, 1, 2, 7, 8, 9, 10} {
		p := rows(12, "a")
		l := plainLeaf{count: 1}
		for i := range n {
			l.groups = append(l.groups, 12-i)
		}
		p.leaves = []plainLeaf{l}
		if n >= 1 && n <= 8 {
			wantsGood(t, fmt.Sprint(n, " groups"), p)
		} else {
			wantsBad(t, fmt.Sprint(n, " groups"), p)
		}
		p.leaves = []plainLeaf{{1, [2]string{"a", ""}, []int{1}}, l}
		if n >= 1 && n <= 8 {
			wantsGood(t, fmt.Sprint(n, " groups of the second leaf"), p)
		} else {
			wantsBad(t, fmt.Sprint(n, " groups of the second leaf"), p)
		}
	}
	one := func(groups ...int) *plain {
		p := rows(3, "a")
		p.leaves = []plainLeaf{{1, [2]string{"a", ""}, groups}}
		return p
	}
	wantsGood(t, "the first", one(1))
	wantsGood(t, "the last", one(3))
	wantsGood(t, "all, in any order", one(2, 3, 1))
	wantsBad(t, "template 0", one(0))
	wantsBad(t, "template 0, the second", one(1, 0))
	wantsBad(t, "one that there is not", one(4))
	wantsBad(t, "one that there is not, the second", one(1, 4))
	for _, id := range []int{5, 62, 63, 64, 65, 100, 128, 1 << 20, 1 << 62} {
		wantsBad(t, fmt.Sprint("template ", id), one(id))
	}
	wantsBad(t, "twice", one(1, 1))
	wantsBad(t, "twice, not side by side", one(3, 1, 3))
	p := one(1, 2)
	p.leaves = append(p.leaves, plainLeaf{1, [2]string{"b", ""}, []int{3}})
	wantsGood(t, "two leaves", p)
	p.leaves[1].groups[0] = 2
	wantsBad(t, "of two leaves", p)
	p.leaves[1].groups = []int{3, 1}
	wantsBad(t, "of two leaves, the second", p)
	p = newPlain()
	p.leaves = []plainLeaf{{1, [2]string{"a", ""}, []int{0}}}
	wantsBad(t, "template 0 alone", p)
	p.leaves[0].groups[0] = 1
	wantsBad(t, "no template but 0", p)
}

// P15.2: a template of another count of parts than its leaf.
func TestDecodeCounts(t *testing.T) {
	for parts := 1; parts <= 64; parts += 9 {
		for _, count := range []int{0, 1, 2, parts - 1, parts, parts + 1, 64, 65, 128, 1 << 62} {
			p := newPlain()
			p.templates = append(p.templates, slices.Repeat(template("a"), parts), slices.Repeat(template("*"), parts))
			p.leaves = []plainLeaf{{count, [2]string{"a", "a"}, []int{1, 2}}}
			if count == parts {
				wantsGood(t, fmt.Sprint(parts, " parts"), p)
			} else {
				wantsBad(t, fmt.Sprint(parts, " parts, count ", count), p)
			}
		}
	}
	p := newPlain()
	p.templates = append(p.templates, template("a b"), template("a b c"))
	p.leaves = []plainLeaf{{2, [2]string{"a", "b"}, []int{1}}}
	wantsGood(t, "one that no group has", p)
	p.leaves[0].groups = []int{1, 2}
	wantsBad(t, "the second of another count", p)
	p.leaves[0].groups = []int{2}
	wantsBad(t, "of another count", p)
}

// P15.2: a Copy is like it, and then a tree of its own.
func TestCopy(t *testing.T) {
	r := rand.New(rand.NewSource(155))
	for range 40 {
		x, p := tree.New(), newPlain()
		for range r.Intn(80) {
			tokens := anyTokens(r)
			x.Assign(tokens...)
			p.assign(tokens)
		}
		before := tell(x)
		other := x.Copy()
		if tell(other) != before || other == x {
			t.Errorf("%s, its Copy %s", before, tell(other))
		}
		q, _ := decode(p.encode())
		for range 80 {
			tokens := anyTokens(r)
			other.Assign(tokens...)
			q.assign(tokens)
		}
		if tell(x) != before {
			t.Errorf("%s became %s", before, tell(x))
		}
		after := tell(other)
		for range 80 {
			tokens := anyTokens(r)
			x.Assign(tokens...)
			p.assign(tokens)
		}
		if tell(other) != after {
			t.Errorf("%s became %s", after, tell(other))
		}
		wantsPlain(t, "the first", x, p)
		wantsPlain(t, "its Copy", other, q)
	}
	// A group that moves in one stays in the other; so does a group that comes.
	x := tree.New()
	wants(t, x, split("a b c c c"), 1)
	other := x.Copy()
	wants(t, x, split("a b c c d"), 2, "d")
	wants(t, other, split("a b x x x"), 2)
	wants(t, x, split("a b c c c"), 2, "c")
	wants(t, other, split("a b c c c"), 1)
	wants(t, other, split("a b x x c"), 3, "c")
	wantsTemplates(t, "the first", x, "a b c c c", "a b c c *")
	wantsTemplates(t, "its Copy", other, "a b c c c", "a b x x x", "a b x x *")
}

// P15.3, W6, W7: what is handed in is left as it is and not kept, what is answered is new memory, spare room too.
func TestMemory(t *testing.T) {
	x, l := tree.New(), lexer.New()
	tokens := append(lex(t, l, "up 3 of 4"), tok(api.TokWord, "spare"))
	n := len(tokens) - 1
	told := fmt.Sprint(tokens)
	first, second := x.Assign(tokens[:n]...), x.Assign(tokens[:n]...)
	other := x.Copy()
	before := tell(x)
	if fmt.Sprint(tokens) != told {
		t.Error("what was handed in became", tokens)
	}
	clear(tokens)
	clear(first.Vars[:cap(first.Vars)])
	_ = append(first.Vars, "!")
	if tell(x) != before || !slices.Equal(second.Vars, []string{"3", "4"}) {
		t.Error("became", tell(x), second.Vars)
	}
	// Templates, bytes, and those of the Copy and of Decode, written over.
	again := decoded(t, x.Encode())
	for _, one := range []*tree.Tree{x, other, again} {
		for id := range 2 {
			made, _ := one.Template(id)
			kept, _ := one.Template(id)
			want := tellTemplate(kept)
			clear(made[:cap(made)])
			_ = append(made, api.Part{Text: "!"})
			if tellTemplate(kept) != want {
				t.Error("another answer became", tellTemplate(kept))
			}
		}
		made, kept := one.Encode(), one.Encode()
		want := string(kept)
		clear(made[:cap(made)])
		if string(kept) != want {
			t.Errorf("another answer became %x", kept)
		}
	}
	for _, one := range []*tree.Tree{x, other, again} {
		if tell(one) != before {
			t.Errorf("%s became %s", before, tell(one))
		}
	}
	// What was handed to Decode, with spare room.
	b := append(x.Encode(), 0xff)
	whole := slices.Clone(b)
	again = decoded(t, b[:len(b)-1])
	if !slices.Equal(b, whole) {
		t.Errorf("what was handed in became %x", b)
	}
	clear(b)
	wants(t, again, lex(t, l, "up 5 of 6"), 1, "5", "6")
	if tell(again) != before {
		t.Errorf("%s became %s", before, tell(again))
	}
	// The one variable of what overflows.
	over := x.Assign()
	clear(over.Vars[:cap(over.Vars)])
	if tell(x) != before {
		t.Errorf("%s became %s", before, tell(x))
	}
}

// W2: the same whatever else was asked, and of another tree.
func TestSameWhateverWasAsked(t *testing.T) {
	r := rand.New(rand.NewSource(156))
	var lines [][]api.Token
	for range 200 {
		lines = append(lines, anyTokens(r))
	}
	x, y := tree.New(), tree.New()
	for _, tokens := range lines {
		y.Len()
		y.Leaves()
		y.Template(r.Intn(70) - 3)
		y.Encode()
		y.Copy().Assign(words("q", "q")...)
		a, b := x.Assign(tokens...), y.Assign(tokens...)
		if a.ID != b.ID || !slices.Equal(a.Vars, b.Vars) {
			t.Errorf("Assign(%v): %v and %v", tokens, a, b)
		}
	}
	if tell(x) != tell(y) {
		t.Errorf("%s and %s", tell(x), tell(y))
	}
}

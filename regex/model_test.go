package regex_test

import (
	"fmt"
	"math/rand"
	"strings"
	"testing"

	"winnower/api"
	"winnower/class"
	"winnower/regex"
)

// Expressions, put together by hand.

func empty() api.Re { return api.Re{} }

func one(b byte) api.Re { return of(class.Of(b)) }

func of(s api.Set) api.Re { return api.Re{Kind: api.ReClass, Set: s} }

func all() api.Re { return of(class.Range(0, 255)) }

func seq(l ...api.Re) api.Re { return api.Re{Kind: api.ReSeq, Kids: l} }

func alt(l ...api.Re) api.Re { return api.Re{Kind: api.ReAlt, Kids: l} }

func rep(r api.Re, low, high int) api.Re {
	return api.Re{Kind: api.ReRepeat, Kids: []api.Re{r}, Low: low, High: high}
}

func star(r api.Re) api.Re { return rep(r, 0, -1) }

// many is n times the same, each with lists of its own.
func many(n int, r func() api.Re) []api.Re {
	l := make([]api.Re, n)
	for i := range l {
		l[i] = r()
	}
	return l
}

func a() api.Re { return one('a') }

// ofBytes is one byte of each of a text.
func ofBytes(s string) []api.Re {
	var l []api.Re
	for i := range len(s) {
		l = append(l, one(s[i]))
	}
	return l
}

// plainSame holds two against each other by how they are told in words.
func plainSame(a, b api.Re) bool { return tell(a) == tell(b) }

// tell is all fields of an expression in words.
func tell(r api.Re) string {
	var b strings.Builder
	fmt.Fprintf(&b, "{%d %x %d %d", r.Kind, r.Set, r.Low, r.High)
	for _, kid := range r.Kids {
		b.WriteString(" " + tell(kid))
	}
	return b.String() + "}"
}

// plainPrint is the text of an expression that may be but for its size.
func plainPrint(r api.Re) string {
	kids := make([]string, len(r.Kids))
	for i, kid := range r.Kids {
		kids[i] = plainPrint(kid)
		if grouped(r.Kind, kid.Kind) {
			kids[i] = "(" + kids[i] + ")"
		}
	}
	switch r.Kind {
	case api.ReClass:
		return plainSet(r.Set)
	case api.ReSeq:
		return strings.Join(kids, "")
	case api.ReAlt:
		return strings.Join(kids, "|")
	case api.ReRepeat:
		return kids[0] + plainTimes(r.Low, r.High)
	}
	return ""
}

// grouped tells whether a kid stands in brackets.
func grouped(kind, kid int) bool {
	switch kind {
	case api.ReSeq:
		return kid != api.ReClass && kid != api.ReRepeat
	case api.ReAlt:
		return kid == api.ReAlt
	}
	return kid != api.ReClass
}

func plainByte(b int) string {
	if strings.Contains("0123456789ABCDEFGHIJKLMNOPQRSTUVWXYZabcdefghijklmnopqrstuvwxyz", string(rune(b))) {
		return string(rune(b))
	}
	return fmt.Sprintf(`\x%02x`, b)
}

func plainSet(s api.Set) string {
	in := func(b int) bool { return 0 <= b && b < 256 && s[b/64]>>(b%64)&1 == 1 }
	count, text := 0, ""
	for b := range 256 {
		if !in(b) {
			continue
		}
		count++
		switch {
		case !in(b - 1):
			text += plainByte(b)
		case !in(b + 1):
			text += "-" + plainByte(b)
		}
	}
	if count == 1 {
		return text
	}
	if count == 256 {
		return "."
	}
	return "[" + text + "]"
}

func plainTimes(low, high int) string {
	for _, sign := range []struct {
		low, high int
		text      string
	}{
		{0, -1, "*"},
		{1, -1, "+"},
		{0, 1, "?"},
		{low, low, fmt.Sprintf("{%d}", low)},
		{low, -1, fmt.Sprintf("{%d,}", low)},
	} {
		if sign.low == low && sign.high == high {
			return sign.text
		}
	}
	return fmt.Sprintf("{%d,%d}", low, high)
}

// plainMay tells whether an expression may be, each word of it for itself.
func plainMay(r api.Re) bool {
	return plainFormed(r) && plainDeep(r) <= 16 && plainNodes(r) <= 128 && len(plainPrint(r)) <= 1024 &&
		plainWeight(r) <= 1024 && plainWithin(r) <= 4
}

func plainFormed(r api.Re) bool {
	for _, kid := range r.Kids {
		if !plainFormed(kid) {
			return false
		}
	}
	bare := r.Low == 0 && r.High == 0
	switch r.Kind {
	case api.ReEmpty:
		return bare && r.Set == api.Set{} && len(r.Kids) == 0
	case api.ReClass:
		return bare && r.Set != api.Set{} && len(r.Kids) == 0
	case api.ReSeq, api.ReAlt:
		return bare && r.Set == api.Set{} && len(r.Kids) > 1
	case api.ReRepeat:
		endless := r.High == -1
		ends := 1 <= r.High && r.High <= 32 && r.High >= r.Low
		return r.Set == api.Set{} && len(r.Kids) == 1 && 0 <= r.Low && r.Low <= 32 && (endless || ends)
	}
	return false
}

func plainDeep(r api.Re) int {
	deep := 0
	for _, kid := range r.Kids {
		deep = max(deep, plainDeep(kid))
	}
	return deep + 1
}

func plainNodes(r api.Re) int {
	n := 1
	for _, kid := range r.Kids {
		n += plainNodes(kid)
	}
	return n
}

func plainWithin(r api.Re) int {
	most := 0
	for _, kid := range r.Kids {
		most = max(most, plainWithin(kid))
	}
	if r.Kind == api.ReRepeat {
		most++
	}
	return most
}

// plainWeight stops at a weight that is far too great.
func plainWeight(r api.Re) int {
	n := 0
	for _, kid := range r.Kids {
		n += plainWeight(kid)
	}
	if r.Kind == api.ReRepeat {
		times := r.Low
		if r.High > times {
			times = r.High
		}
		if times < 1 {
			times = 1
		}
		n *= times
	}
	return min(n+1, 1<<20)
}

// anyRe is an expression by chance, at most so deep; formed, but maybe too large.
func anyRe(r *rand.Rand, deep int) api.Re {
	kind := r.Intn(6)
	if deep <= 1 {
		kind = r.Intn(2)
	}
	switch kind {
	case 0:
		return empty()
	case 2, 3:
		kids := many(2+r.Intn(3), func() api.Re { return anyRe(r, deep-1) })
		if kind == 2 {
			return seq(kids...)
		}
		return alt(kids...)
	case 4:
		low := r.Intn(4)
		return rep(anyRe(r, deep-1), low, []int{-1, max(low, 1), low + 1, low + 1 + r.Intn(3)}[r.Intn(4)])
	}
	return of(anySet(r))
}

// anySet is a set by chance, not an empty one.
func anySet(r *rand.Rand) api.Set {
	low := byte(r.Intn(256))
	switch r.Intn(5) {
	case 0:
		return class.Range(low, byte(int(low)+r.Intn(256-int(low))))
	case 1:
		return class.Not(class.Of(low))
	case 2:
		return class.Join(class.Of(low), class.Range(byte(r.Intn(256)), 255), class.Of("a-^]0"[r.Intn(5)]))
	}
	return class.Of(low)
}

// wantsRe holds an expression against another.
func wantsRe(t *testing.T, what any, got, want api.Re) {
	t.Helper()
	if !plainSame(got, want) {
		t.Errorf("%q: got %s, want %s", what, tell(got), tell(want))
	}
}

// wantsParse holds what Parse tells of a text that is an expression.
func wantsParse(t *testing.T, s string, want api.Re) {
	t.Helper()
	r, at, e := regex.Parse(s)
	if e != api.OK || at != 0 {
		t.Errorf("Parse(%q): error %d at %d", s, e, at)
		return
	}
	wantsRe(t, s, r, want)
}

// wantsError holds what Parse tells of a text that is none.
func wantsError(t *testing.T, s string, want api.Errno, wantAt int) {
	t.Helper()
	r, at, e := regex.Parse(s)
	if e != want || at != wantAt {
		t.Errorf("Parse(%q): error %d at %d, want %d at %d", s, e, at, want, wantAt)
	}
	wantsRe(t, s, r, api.Re{})
}

package segment_test

import (
	"encoding/binary"
	"fmt"
	"hash/crc32"
	"math/rand"
	"slices"
	"strings"
	"testing"

	"winnower/api"
	"winnower/dict"
	"winnower/pack"
	"winnower/segment"
)

// line is one of a template, by its variables.
func line(id int, vars ...string) api.Assigned { return api.Assigned{ID: id, Vars: vars} }

func seg(first int, lines ...api.Assigned) segment.Segment {
	return segment.Segment{First: first, Lines: lines}
}

func long(n int) string { return strings.Repeat("x", n) }

// lines is n lines like one.
func lines(n int, a api.Assigned) []api.Assigned {
	var l []api.Assigned
	for range n {
		l = append(l, line(a.ID, slices.Clone(a.Vars)...))
	}
	return l
}

// nums is numbers as bytes: seven digits each, the lowest first.
func nums(l ...int) []byte {
	var b []byte
	for _, n := range l {
		for ; n >= 128; n /= 128 {
			b = append(b, byte(n%128+128))
		}
		b = append(b, byte(n))
	}
	return b
}

// row is bytes behind their length.
func row(b []byte) []byte { return append(nums(len(b)), b...) }

// summed is bytes, and their Sum behind them.
func summed(b []byte) []byte {
	return binary.LittleEndian.AppendUint32(slices.Clone(b), crc32.ChecksumIEEE(b))
}

// laid is columns as they are laid, whether they may be or not.
func laid(first int, ids, counts, vars []byte) []byte {
	return summed(slices.Concat(nums(first), row(ids), row(counts), row(vars)))
}

// best and texts are columns in the only way in which they may be laid.
func best(l ...int) []byte {
	b, _ := pack.Best(l...)
	return b
}

func texts(l ...string) []byte {
	b, _ := dict.Encode(l...)
	return b
}

// encode is what Encode tells of a segment that may be, in plain words.
func encode(s segment.Segment) []byte {
	var ids, counts []int
	var vars []string
	for _, a := range s.Lines {
		ids = append(ids, a.ID)
		counts = append(counts, len(a.Vars))
		vars = append(vars, a.Vars...)
	}
	return laid(s.First, best(ids...), best(counts...), texts(vars...))
}

// may is what Is tells, look by look.
func may(s segment.Segment) bool {
	if s.First < 0 || s.First > 1<<35 || len(s.Lines) < 1 || len(s.Lines) > 512 {
		return false
	}
	for _, a := range s.Lines {
		if a.ID < 0 || a.ID > 63 || len(a.Vars) > 64 {
			return false
		}
		for _, v := range a.Vars {
			if len(v) > 256 {
				return false
			}
		}
	}
	return true
}

// take takes a number in its shortest way.
func take(b []byte) (n int, rest []byte, ok bool) {
	for i := 0; i < len(b) && i < 9; i++ {
		n += int(b[i]%128) << (7 * i)
		if b[i] < 128 {
			return n, b[i+1:], n <= 1<<62 && (i == 0 || b[i] > 0)
		}
	}
	return 0, nil, false
}

// takeNumbers takes a column of numbers that is laid in the best way.
func takeNumbers(b []byte) (l []int, rest []byte, ok bool) {
	n, b, ok := take(b)
	if !ok || n > len(b) {
		return nil, nil, false
	}
	l, e := pack.Decode(b[:n])
	return l, b[n:], e == api.OK && slices.Equal(b[:n], best(l...))
}

// decode is what Decode tells, look by look.
func decode(b []byte) (s segment.Segment, ok bool) {
	if len(b) < 4 || !slices.Equal(summed(b[:len(b)-4]), b) {
		return s, false
	}
	first, b, ok := take(b[:len(b)-4])
	if !ok {
		return s, false
	}
	ids, b, ok := takeNumbers(b)
	if !ok {
		return s, false
	}
	counts, b, ok := takeNumbers(b)
	if !ok || len(counts) != len(ids) {
		return s, false
	}
	n, b, ok := take(b)
	if !ok || n != len(b) {
		return s, false
	}
	vars, e := dict.Decode(b)
	if e != api.OK {
		return s, false
	}
	s.First = first
	for k, id := range ids {
		if counts[k] > len(vars) {
			return segment.Segment{}, false
		}
		s.Lines = append(s.Lines, line(id, vars[:counts[k]]...))
		vars = vars[counts[k]:]
	}
	return s, len(vars) == 0 && may(s)
}

// tell is all of a segment as a text.
func tell(s segment.Segment) string {
	told := fmt.Sprint("from ", s.First, ", ", len(s.Lines), " lines:")
	for _, a := range s.Lines {
		told += fmt.Sprintf(" %d%q", a.ID, a.Vars)
	}
	return strings.ReplaceAll(told, "[]", "")
}

// short is how a text begins.
func short(s string) string { return fmt.Sprintf("%.300s (%d)", s, len(s)) }

// wantsGood holds that a segment may be, is laid as plain words lay it, and taken again.
func wantsGood(t *testing.T, what any, s segment.Segment) {
	t.Helper()
	if !segment.Is(s) || !may(s) {
		t.Errorf("%v: %s is none", what, short(tell(s)))
	}
	b, e := segment.Encode(s)
	if want := encode(s); e != api.OK || !slices.Equal(b, want) {
		t.Errorf("%v: Encode of %s: error %d, %.300x, want %.300x", what, short(tell(s)), e, b, want)
		return
	}
	wantsDecoded(t, what, b, s)
}

// wantsWrong holds that a segment may not be.
func wantsWrong(t *testing.T, what any, s segment.Segment) {
	t.Helper()
	if segment.Is(s) || may(s) {
		t.Errorf("%v: %s is one", what, short(tell(s)))
	}
	if b, e := segment.Encode(s); e != api.ErrArg || len(b) > 0 {
		t.Errorf("%v: Encode of %s: error %d, %.300x", what, short(tell(s)), e, b)
	}
	if j, e := segment.Join(s); e != api.ErrArg || j.First != 0 || len(j.Lines) > 0 {
		t.Errorf("%v: Join of %s: error %d, %s", what, short(tell(s)), e, short(tell(j)))
	}
}

func wantsDecoded(t *testing.T, what any, b []byte, want segment.Segment) {
	t.Helper()
	s, e := segment.Decode(b)
	if e != api.OK || tell(s) != tell(want) || !segment.Same(s, want) {
		t.Errorf("%v: Decode(%.300x): error %d, %s, want %s", what, b, e, short(tell(s)), short(tell(want)))
	}
}

func wantsBad(t *testing.T, what any, b []byte) {
	t.Helper()
	if s, e := segment.Decode(b); e != api.ErrForm || s.First != 0 || len(s.Lines) > 0 {
		t.Errorf("%v: Decode(%.300x): error %d, %s", what, b, e, short(tell(s)))
	}
	if s, ok := decode(b); ok {
		t.Errorf("%v: in plain words %.300x is %s", what, b, short(tell(s)))
	}
}

// wantsDecode holds Decode against plain words.
func wantsDecode(t *testing.T, what any, b []byte) {
	t.Helper()
	if s, ok := decode(b); ok {
		wantsDecoded(t, what, b, s)
	} else {
		wantsBad(t, what, b)
	}
}

// byChance is a segment of a few lines.
func byChance(r *rand.Rand) segment.Segment {
	s := seg(r.Intn(300))
	for range 1 + r.Intn(6) {
		a := line(r.Intn(4))
		for range r.Intn(3) {
			a.Vars = append(a.Vars, []string{"", "3", "4", "up", "\xff\x00"}[r.Intn(5)])
		}
		s.Lines = append(s.Lines, a)
	}
	return s
}

// several is segments of all kinds.
func several() []segment.Segment {
	return []segment.Segment{
		seg(0, line(0)),
		seg(5, line(1, "3"), line(1, "4")),
		seg(1<<35, line(63, "", "a", ""), line(0, "a"), line(2)),
		seg(300, lines(7, line(3, "up", "down"))...),
		seg(0, line(1, long(150)), line(2, "b", "a"), line(1), line(1, "a")),
	}
}

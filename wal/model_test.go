package wal_test

import (
	"encoding/binary"
	"fmt"
	"hash/crc32"
	"math/rand"
	"slices"
	"strings"
	"testing"

	"winnower/api"
	"winnower/wal"
)

func batch(first int, lines ...string) wal.Batch { return wal.Batch{First: first, Lines: lines} }

func long(n int) string { return strings.Repeat("x", n) }

// nums is numbers as bytes: seven digits each, the lowest first.
func nums(l ...int) []byte {
	var b []byte
	for _, n := range l {
		for ; n >= 128; n /= 128 {
			b = append(b, byte(n%128+128))
		}
		b = append(b, byte(n))
	}
	return b
}

// summed is bytes, and their Sum behind them.
func summed(b []byte) []byte {
	return binary.LittleEndian.AppendUint32(slices.Clone(b), crc32.ChecksumIEEE(b))
}

// laid is a batch ahead of its Sum, whether it may be or not.
func laid(b wal.Batch) []byte {
	p := nums(b.First, len(b.Lines))
	for _, line := range b.Lines {
		p = append(append(p, nums(len(line))...), line...)
	}
	return p
}

func encode(b wal.Batch) []byte { return summed(laid(b)) }

// may is whether a batch may be, look by look.
func may(b wal.Batch) bool {
	if b.First < 0 || b.First > 1<<35 || len(b.Lines) < 1 || len(b.Lines) > 64 {
		return false
	}
	for _, line := range b.Lines {
		if len(line) > 256 {
			return false
		}
	}
	return true
}

// take takes a number in its shortest way.
func take(b []byte) (n int, rest []byte, ok bool) {
	for i := 0; i < len(b) && i < 9; i++ {
		n += int(b[i]%128) << (7 * i)
		if b[i] < 128 {
			return n, b[i+1:], n <= 1<<62 && (i == 0 || b[i] > 0)
		}
	}
	return 0, nil, false
}

// decode is what Decode tells, look by look.
func decode(p []byte) (b wal.Batch, ok bool) {
	if len(p) < 4 || !slices.Equal(summed(p[:len(p)-4]), p) {
		return b, false
	}
	first, p, ok := take(p[:len(p)-4])
	if !ok {
		return b, false
	}
	count, p, ok := take(p)
	if !ok || count > len(p) {
		return b, false
	}
	b.First = first
	for range count {
		n, rest, ok := take(p)
		if !ok || n > len(rest) {
			return wal.Batch{}, false
		}
		b.Lines = append(b.Lines, string(rest[:n]))
		p = rest[n:]
	}
	return b, len(p) == 0 && may(b)
}

// tell is all of a batch as a text.
func tell(b wal.Batch) string { return fmt.Sprint("from ", b.First, ": ", tellLines(b.Lines)) }

func tellLines(l []string) string { return fmt.Sprintf("%q", append([]string{}, l...)) }

func short(s string) string { return fmt.Sprintf("%.300s (%d)", s, len(s)) }

// wantsGood holds that a batch may be, is laid as plain words lay it, and taken again.
func wantsGood(t *testing.T, what any, b wal.Batch) {
	t.Helper()
	p, e := wal.Encode(b)
	if want := encode(b); !may(b) || e != api.OK || !slices.Equal(p, want) {
		t.Errorf("%v: Encode of %s: error %d, %.300x, want %.300x", what, short(tell(b)), e, p, want)
		return
	}
	wantsDecoded(t, what, p, b)
}

// wantsWrong holds that a batch may not be.
func wantsWrong(t *testing.T, what any, b wal.Batch) {
	t.Helper()
	if p, e := wal.Encode(b); may(b) || e != api.ErrArg || len(p) > 0 {
		t.Errorf("%v: Encode of %s: error %d, %.300x", what, short(tell(b)), e, p)
	}
	if b.First >= 0 {
		wantsBad(t, what, encode(b))
	}
}

func wantsDecoded(t *testing.T, what any, p []byte, want wal.Batch) {
	t.Helper()
	if b, e := wal.Decode(p); e != api.OK || tell(b) != tell(want) {
		t.Errorf("%v: Decode(%.300x): error %d, %s, want %s", what, p, e, short(tell(b)), short(tell(want)))
	}
}

func wantsBad(t *testing.T, what any, p []byte) {
	t.Helper()
	if b, e := wal.Decode(p); e != api.ErrForm || b.First != 0 || len(b.Lines) > 0 {
		t.Errorf("%v: Decode(%.300x): error %d, %s", what, p, e, short(tell(b)))
	}
	if b, ok := decode(p); ok {
		t.Errorf("%v: in plain words %.300x is %s", what, p, short(tell(b)))
	}
}

// wantsDecode holds Decode against plain words.
func wantsDecode(t *testing.T, what any, p []byte) {
	t.Helper()
	if b, ok := decode(p); ok {
		wantsDecoded(t, what, p, b)
	} else {
		wantsBad(t, what, p)
	}
}

// several is batches of all kinds.
func several() []wal.Batch {
	return []wal.Batch{
		batch(0, ""),
		batch(7, "up 3", "down", "up 3"),
		batch(1<<35, "", "", "\xff\x00\n"),
		batch(300, long(150), "a"),
	}
}

// byChance is a batch of a few lines.
func byChance(r *rand.Rand) wal.Batch {
	b := batch(r.Intn(1 << r.Intn(36)))
	for range 1 + r.Intn(6) {
		b.Lines = append(b.Lines, []string{"", "3", "up", "up 3", "\xff\x00"}[r.Intn(5)])
	}
	return b
}

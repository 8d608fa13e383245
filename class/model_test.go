package class_test

import (
	"math/rand"
	"testing"

	"winnower/api"
	"winnower/class"
)

// plain is a set in plain words: of each byte whether it is in it.
type plain [256]bool

// edges is the bytes at the ends of the words, and beside them.
var edges = []byte{0, 1, 62, 63, 64, 65, 126, 127, 128, 129, 190, 191, 192, 193, 254, 255}

func plainOf(bytes ...byte) plain {
	var p plain
	for _, b := range bytes {
		p[b] = true
	}
	return p
}

// plainIf is the bytes of which something holds.
func plainIf(holds func(b int) bool) plain {
	var p plain
	for b := range p {
		p[b] = holds(b)
	}
	return p
}

func plainRange(low, high byte) plain {
	return plainIf(func(b int) bool { return int(low) <= b && b <= int(high) })
}

// set is the words of it, told by api alone.
func (p plain) set() api.Set {
	var s api.Set
	for b, in := range p {
		if in {
			s[b/64] += 1 << (b % 64)
		}
	}
	return s
}

func (p plain) list() []byte {
	var list []byte
	for b, in := range p {
		if in {
			list = append(list, byte(b))
		}
	}
	return list
}

// ranges has each pair of ends with all in it between them, and none beside them.
func (p plain) ranges() [][2]byte {
	in := func(b int) bool { return 0 <= b && b < 256 && p[b] }
	var rows [][2]byte
	for low := range 256 {
		if !in(low) || in(low-1) {
			continue
		}
		high := low
		for in(high + 1) {
			high++
		}
		rows = append(rows, [2]byte{byte(low), byte(high)})
	}
	return rows
}

// plains is none, all, each byte alone, each but one, rows from edge to edge, rows with gaps, and some by chance.
func plains() []plain {
	list := []plain{{}, plainRange(0, 255)}
	for b := range 256 {
		list = append(list, plainOf(byte(b)), plainIf(func(c int) bool { return c != b }))
	}
	for _, low := range edges {
		for _, high := range edges {
			row := plainRange(low, high)
			list = append(list, row, plainIf(func(b int) bool { return !row[b] }))
		}
	}
	for n := 2; n < 70; n++ {
		for k := range min(n, 3) {
			list = append(list, plainIf(func(b int) bool { return b%n == k }), plainIf(func(b int) bool { return b%n != k }))
		}
	}
	r := rand.New(rand.NewSource(5))
	for range 300 {
		share := r.Float64()
		list = append(list, plainIf(func(int) bool { return r.Float64() < share }))
	}
	return list
}

// wants holds a set against plain words, by its words and by what is asked of it.
func (p plain) wants(t *testing.T, what any, got api.Set) {
	t.Helper()
	if got != p.set() {
		t.Errorf("%v: got %x, want %x", what, got, p.set())
	}
	for b, in := range p {
		if class.Has(got, byte(b)) != in {
			t.Errorf("%v: Has %d is %v", what, b, !in)
		}
	}
}

package octet_test

import (
	"bytes"
	"encoding/binary"
	"math"
	"slices"
	"testing"

	"winnower/octet"
)

// hand is a row that is handed in, with room behind its end that must stay as it is.
type hand struct {
	room []byte
	n    int
}

func handIn(row string) hand {
	return hand{append([]byte(row), "spare"...), len(row)}
}

func (h hand) row() []byte { return h.room[:h.n] }

func (h hand) stays(t *testing.T, row string) {
	t.Helper()
	if string(h.room) != row+"spare" {
		t.Errorf("what was handed in became %q", h.room)
	}
}

func laid(lay func(w *octet.Writer)) []byte {
	var w octet.Writer
	lay(&w)
	return w.Out()
}

func wantBytes(t *testing.T, what any, got, want []byte) {
	t.Helper()
	if !bytes.Equal(got, want) {
		t.Errorf("%v: got % x, want % x", what, got, want)
	}
}

// numbers has the numbers at the edges of each length, each as it is laid.
func numbers() map[int][]byte {
	m := map[int][]byte{
		0:         {0x00},
		1:         {0x01},
		127:       {0x7f},
		128:       {0x80, 0x01},
		129:       {0x81, 0x01},
		300:       {0xac, 0x02},
		16383:     {0xff, 0x7f},
		16384:     {0x80, 0x80, 0x01},
		1<<62 - 1: {0xff, 0xff, 0xff, 0xff, 0xff, 0xff, 0xff, 0xff, 0x3f},
		1 << 62:   {0x80, 0x80, 0x80, 0x80, 0x80, 0x80, 0x80, 0x80, 0x40},
	}
	for i := range 62 {
		for _, n := range []int{1<<i - 1, 1 << i, 1<<i + 1} {
			m[n] = binary.AppendUvarint(nil, uint64(n))
		}
	}
	return m
}

// P1.1
func TestNumsLaysDigits(t *testing.T) {
	for n, want := range numbers() {
		wantBytes(t, n, laid(func(w *octet.Writer) { w.Nums(n) }), want)
	}
}

// P1.1
func TestNumsOutOfBounds(t *testing.T) {
	for _, n := range []int{-1, -2, -128, -1 << 62, math.MinInt} {
		wantBytes(t, n, laid(func(w *octet.Writer) { w.Nums(n) }), []byte{0})
	}
	greatest := []byte{0x80, 0x80, 0x80, 0x80, 0x80, 0x80, 0x80, 0x80, 0x40}
	for _, n := range []int{1<<62 + 1, 1<<62 + 1<<61, math.MaxInt - 1, math.MaxInt} {
		wantBytes(t, n, laid(func(w *octet.Writer) { w.Nums(n) }), greatest)
	}
}

// P1.1
func TestBytesLaysLengthAndRow(t *testing.T) {
	for _, n := range []int{0, 1, 2, 127, 128, 300, 16384, 70000} {
		row := bytes.Repeat([]byte{0xe5}, n)
		want := append(binary.AppendUvarint(nil, uint64(n)), row...)
		if got := laid(func(w *octet.Writer) { w.Bytes(row) }); !bytes.Equal(got, want) {
			t.Errorf("a row of %d", n)
		}
	}
	wantBytes(t, "nil", laid(func(w *octet.Writer) { w.Bytes(nil) }), []byte{0})
	wantBytes(t, "empty", laid(func(w *octet.Writer) { w.Bytes([]byte{}) }), []byte{0})
}

// P1.1
func TestRawLaysAsIs(t *testing.T) {
	var all []byte
	for b := range 256 {
		all = append(all, byte(b))
	}
	wantBytes(t, "all bytes", laid(func(w *octet.Writer) { w.Raw(all...) }), all)
}

// P1.1
func TestWriterOfNothing(t *testing.T) {
	var w octet.Writer
	wantBytes(t, "the zero value", w.Out(), nil)
	w.Nums()
	w.Bytes()
	w.Raw()
	w.Raw(nil...)
	wantBytes(t, "no argument", w.Out(), nil)
	w.Raw(1)
	w.Nums()
	w.Bytes()
	w.Raw()
	wantBytes(t, "no argument behind something", w.Out(), []byte{1})
}

// P1.1: the example, and all that is laid stands behind what was laid.
func TestLaidBehind(t *testing.T) {
	var w octet.Writer
	w.Nums(1, 300)
	w.Bytes([]byte{0x61})
	want := []byte{0x01, 0xac, 0x02, 0x01, 0x61}
	wantBytes(t, "the example", w.Out(), want)
	w.Raw(9, 8)
	w.Nums(7)
	w.Bytes([]byte("xy"))
	wantBytes(t, "more", w.Out(), append(want, 9, 8, 7, 2, 'x', 'y'))
}

// P1.1: of several arguments each lays what it would lay alone.
func TestWriterVariadic(t *testing.T) {
	nums := []int{5, -1, 300, 1 << 62, math.MaxInt, 0}
	rows := [][]byte{[]byte("ab"), nil, {}, bytes.Repeat([]byte{1}, 200), {0}}
	var one octet.Writer
	for _, n := range nums {
		one.Nums(n)
	}
	for _, row := range rows {
		one.Bytes(row)
		for _, b := range row {
			one.Raw(b)
		}
	}
	var all octet.Writer
	all.Nums(nums...)
	for _, row := range rows {
		all.Bytes(row)
		all.Raw(row...)
	}
	wantBytes(t, "at once", all.Out(), one.Out())
	wantBytes(t, "rows at once",
		laid(func(w *octet.Writer) { w.Bytes(rows...) }),
		laid(func(w *octet.Writer) {
			for _, row := range rows {
				w.Bytes(row)
			}
		}))
}

// P1.1, P1.4
func TestOutIsNewEachTime(t *testing.T) {
	var w octet.Writer
	w.Raw(1, 2, 3)
	first, second := w.Out(), w.Out()
	first[0] = 99
	_ = append(first, 98)
	_ = append(first[:1], 97, 96)
	wantBytes(t, "another answer", second, []byte{1, 2, 3})
	wantBytes(t, "what is kept", w.Out(), []byte{1, 2, 3})
	spare := w.Out()
	w.Raw(4, 5)
	wantBytes(t, "an answer later", second, []byte{1, 2, 3})
	_ = append(spare, 77, 77)
	wantBytes(t, "what was laid behind", w.Out(), []byte{1, 2, 3, 4, 5})
}

// P1.4
func TestWriterLeavesWhatIsHandedIn(t *testing.T) {
	raw, row := handIn("raw"), handIn("row")
	nums := []int{-1, 1<<62 + 1, 5}
	rows := [][]byte{row.row(), row.row()}
	var w octet.Writer
	w.Raw(raw.row()...)
	w.Bytes(rows...)
	w.Nums(nums[:2]...)
	want := w.Out()
	raw.stays(t, "raw")
	row.stays(t, "row")
	if !slices.Equal(nums, []int{-1, 1<<62 + 1, 5}) || len(rows) != 2 || string(rows[1]) != "row" {
		t.Error("what was handed in changed:", nums, rows)
	}
	clear(raw.room)
	clear(row.room)
	clear(nums)
	clear(rows)
	wantBytes(t, "what is kept", w.Out(), want)
	w.Raw(1)
	wantBytes(t, "what was handed in", raw.room, make([]byte, 8))
}

// P1.4: what is handed in first is not what is laid on.
func TestWriterDoesNotKeepFirstArgument(t *testing.T) {
	raw := handIn("raw")
	var w octet.Writer
	w.Raw(raw.row()...)
	clear(raw.row())
	wantBytes(t, "what is kept", w.Out(), []byte("raw"))
	w.Raw('x', 'y')
	raw.stays(t, "\x00\x00\x00")
	wantBytes(t, "what is laid behind", w.Out(), []byte("rawxy"))
}

// P1.4
func TestNilWriter(t *testing.T) {
	var w *octet.Writer
	w.Nums()
	w.Nums(1, -1)
	w.Bytes()
	w.Bytes(nil, []byte("a"))
	w.Raw()
	w.Raw(1, 2)
	wantBytes(t, "a nil Writer", w.Out(), nil)
}

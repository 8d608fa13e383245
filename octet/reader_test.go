package octet_test

import (
	"bytes"
	"math"
	"testing"

	"winnower/octet"
)

// wantBad looks whether a Reader has erred, and gives nothing any more.
func wantBad(t *testing.T, what any, r *octet.Reader) {
	t.Helper()
	for range 2 {
		if r.Good() || r.Whole() || r.Left() != 0 {
			t.Errorf("%v: good %v, whole %v, left %d", what, r.Good(), r.Whole(), r.Left())
		}
		n := 7
		r.Nums(&n, nil)
		if n != 0 || r.Num() != 0 || len(r.Bytes()) != 0 || len(r.Raw(1)) != 0 || len(r.Raw(0)) != 0 || len(r.Raw(-1)) != 0 {
			t.Errorf("%v: something is taken behind an error", what)
		}
		r.Nums()
		r.Bad()
	}
}

func wantLeft(t *testing.T, what any, r *octet.Reader, left int) {
	t.Helper()
	if !r.Good() || r.Left() != left || r.Whole() != (left == 0) {
		t.Errorf("%v: good %v, whole %v, left %d, want %d left", what, r.Good(), r.Whole(), r.Left(), left)
	}
}

// P1.2
func TestNumTakesDigits(t *testing.T) {
	for n, row := range numbers() {
		r := octet.NewReader(append(row[:len(row):len(row)], 1, 2))
		if got := r.Num(); got != n {
			t.Errorf("% x: got %d, want %d", row, got, n)
		}
		wantLeft(t, n, r, 2)
		r = octet.NewReader(row)
		if got := r.Num(); got != n {
			t.Errorf("% x at the end: got %d, want %d", row, got, n)
		}
		wantLeft(t, n, r, 0)
	}
}

// wrongNums is rows at whose beginning no number stands, whatever is behind.
func wrongNums() [][]byte {
	rows := [][]byte{
		{0x80, 0x80, 0x80, 0x80, 0x80, 0x80, 0x80, 0x80, 0x41}, // 2^62 + 2^56
		{0x81, 0x80, 0x80, 0x80, 0x80, 0x80, 0x80, 0x80, 0x40}, // 2^62 + 1
		{0xff, 0xff, 0xff, 0xff, 0xff, 0xff, 0xff, 0xff, 0x7f}, // 2^63 - 1
	}
	for n := 1; n <= 12; n++ { // more bytes than needed
		rows = append(rows, append(bytes.Repeat([]byte{0x80}, n), 0), append(bytes.Repeat([]byte{0xff}, n), 0), append(append([]byte{0x81}, bytes.Repeat([]byte{0x80}, n)...), 0))
	}
	for n := 9; n <= 70; n++ { // ten bytes and more
		rows = append(rows, append(bytes.Repeat([]byte{0x80}, n), 1), append(bytes.Repeat([]byte{0xff}, n), 1), append(bytes.Repeat([]byte{0x80}, n), 0x7f), append(bytes.Repeat([]byte{0x80}, n), 2))
	}
	return rows
}

// P1.2
func TestNumErrs(t *testing.T) {
	for _, row := range wrongNums() {
		for _, behind := range []string{"", "\x01\x02", "\x01\x02\x03\x04\x05\x06\x07\x08\x09\x0a\x0b\x0c"} {
			r := octet.NewReader(append(append([]byte{}, row...), behind...))
			if n := r.Num(); n != 0 {
				t.Errorf("% x: got %d", row, n)
			}
			wantBad(t, row, r)
		}
	}
}

// P1.2
func TestNumEndsTooEarly(t *testing.T) {
	for n := range 12 {
		for _, b := range []byte{0x80, 0xff} {
			row := bytes.Repeat([]byte{b}, n)
			r := octet.NewReader(row)
			if n := r.Num(); n != 0 {
				t.Errorf("% x: got %d", row, n)
			}
			wantBad(t, row, r)
		}
	}
}

// P1.2
func TestNumsIntoPlaces(t *testing.T) {
	r := octet.NewReader([]byte{1, 0xac, 2, 3, 4, 5, 6})
	a, b, c := -1, -1, -1
	r.Nums(&a, &b)
	if a != 1 || b != 300 {
		t.Error(a, b)
	}
	r.Nums()
	r.Nums(nil...)
	wantLeft(t, "no place", r, 4)
	r.Nums(nil, &c, nil)
	if c != 4 {
		t.Error("behind a nil place:", c)
	}
	wantLeft(t, "nil places", r, 1)
	r.Nums(&a, &a, &b, nil)
	if a != 0 || b != 0 {
		t.Error("behind an error:", a, b)
	}
	wantBad(t, "places for more than there is", r)
}

// P1.2: what was taken ahead of an error stays; what is behind it is 0.
func TestNumsAcrossAnError(t *testing.T) {
	r := octet.NewReader([]byte{5, 0x80, 0x00, 6})
	a, b, c := -1, -1, -1
	r.Nums(&a, &b, &c)
	if a != 5 || b != 0 || c != 0 {
		t.Error(a, b, c)
	}
	wantBad(t, "a number in the middle", r)
	r = octet.NewReader([]byte{5, 0x80, 0x00, 6})
	r.Nums(nil, nil)
	wantBad(t, "no place for what errs", r)
}

// P1.2
func TestBytesTakesRow(t *testing.T) {
	r := octet.NewReader([]byte{2, 'a', 'b', 0, 1, 'c', 0})
	for i, want := range []string{"ab", "", "c", ""} {
		if got := r.Bytes(); string(got) != want {
			t.Errorf("%d: got %q, want %q", i, got, want)
		}
		wantLeft(t, i, r, []int{4, 3, 1, 0}[i])
	}
	if got := r.Bytes(); len(got) != 0 {
		t.Errorf("at the end: %q", got)
	}
	wantBad(t, "a row at the end", r)
}

// P1.2
func TestBytesErrs(t *testing.T) {
	rows := [][]byte{
		nil,
		{1},
		{2, 'a'},
		{3, 1, 2},
		{0x80},
		{0x80, 1, 'a'},
		{0x81, 0x00, 'a', 'b'},
		{0x80, 0x80, 0x80, 0x80, 0x80, 0x80, 0x80, 0x80, 0x40, 'a'},
		{0x81, 0x80, 0x80, 0x80, 0x80, 0x80, 0x80, 0x80, 0x40, 'a'},
		{0xff, 0xff, 0xff, 0xff, 0xff, 0xff, 0xff, 0xff, 0x3f, 'a'},
	}
	for _, row := range append(rows, wrongNums()...) {
		r := octet.NewReader(row)
		if got := r.Bytes(); len(got) != 0 {
			t.Errorf("% x: got % x", row, got)
		}
		wantBad(t, row, r)
	}
}

// P1.2
func TestRawTakesBytes(t *testing.T) {
	r := octet.NewReader([]byte{0x80, 0xff, 0, 7})
	wantBytes(t, "none", r.Raw(0), nil)
	wantLeft(t, "none", r, 4)
	wantBytes(t, "one", r.Raw(1), []byte{0x80})
	wantLeft(t, "one", r, 3)
	wantBytes(t, "all others", r.Raw(3), []byte{0xff, 0, 7})
	wantLeft(t, "all others", r, 0)
	wantBytes(t, "none at the end", r.Raw(0), nil)
	wantLeft(t, "none at the end", r, 0)
	wantBytes(t, "one at the end", r.Raw(1), nil)
	wantBad(t, "one at the end", r)
}

// P1.2
func TestRawErrs(t *testing.T) {
	for _, n := range []int{-1, -2, -4, math.MinInt, 4, 5, 1 << 32, 1 << 62, math.MaxInt} {
		r := octet.NewReader([]byte{3, 1, 2})
		wantBytes(t, n, r.Raw(n), nil)
		wantBad(t, n, r)
	}
	r := octet.NewReader(nil)
	wantBytes(t, "-1 of nothing", r.Raw(-1), nil)
	wantBad(t, "-1 of nothing", r)
}

// P1.2
func TestBadErrs(t *testing.T) {
	r := octet.NewReader([]byte{3, 1, 2, 3})
	r.Bad()
	wantBad(t, "at the beginning", r)
	r = octet.NewReader([]byte{3, 1})
	r.Num()
	r.Bad()
	wantBad(t, "in the middle", r)
	r = octet.NewReader(nil)
	r.Bad()
	wantBad(t, "at the end", r)
}

// P1.2
func TestReaderOfNothing(t *testing.T) {
	for _, p := range [][]byte{nil, {}} {
		wantLeft(t, "nothing", octet.NewReader(p), 0)
		r := octet.NewReader(p)
		r.Nums()
		wantLeft(t, "no place", r, 0)
		for i, turn := range []func(){func() { r.Num() }, func() { r.Nums(nil) }, func() { r.Bytes() }, func() { r.Raw(1) }} {
			r = octet.NewReader(p)
			turn()
			wantBad(t, i, r)
		}
	}
}

// P1.2
func TestLeftCountsDown(t *testing.T) {
	r := octet.NewReader([]byte{0xac, 2, 1, 'a', 9, 9, 9, 5})
	wantLeft(t, "all", r, 8)
	r.Num()
	wantLeft(t, "behind Num", r, 6)
	r.Bytes()
	wantLeft(t, "behind Bytes", r, 4)
	r.Raw(3)
	wantLeft(t, "behind Raw", r, 1)
	r.Nums(nil)
	wantLeft(t, "behind Nums", r, 0)
}

// P1.4
func TestReaderKeepsNothingHandedIn(t *testing.T) {
	p := handIn("\x02ab\x07rest")
	r := octet.NewReader(p.row())
	row, n := r.Bytes(), r.Num()
	p.stays(t, "\x02ab\x07rest")
	clear(p.room)
	if string(row) != "ab" || n != 7 || string(r.Raw(4)) != "rest" {
		t.Error("what was handed in is kept")
	}
	wantBytes(t, "what was handed in", p.room, make([]byte, 13))
}

// P1.4
func TestReaderAnswersNewMemory(t *testing.T) {
	p := []byte("\x02abcd\x01efgh")
	r := octet.NewReader(p)
	row, raw := r.Bytes(), r.Raw(2)
	for _, b := range [][]byte{row, raw, r.Bytes(), r.Raw(0), octet.NewReader(p).Raw(11)} {
		b = append(b, 'X')
		b = append(b[:1], "YYYYYY"...)
		clear(b[:cap(b)])
	}
	if string(r.Raw(3)) != "fgh" || !r.Whole() {
		t.Error("an answer shares what the Reader keeps")
	}
	if string(p) != "\x02abcd\x01efgh" {
		t.Errorf("an answer shares what was handed in: %q", p)
	}
	r = octet.NewReader(p)
	row, raw = r.Bytes(), r.Raw(2)
	_ = append(row, 'X', 'Y')
	if string(raw) != "cd" {
		t.Errorf("an answer shares another: %q", raw)
	}
	r.Bad()
	if string(row) != "ab" || string(raw) != "cd" {
		t.Errorf("an answer changed later: %q, %q", row, raw)
	}
}

// P1.4
func TestNilReader(t *testing.T) {
	var r *octet.Reader
	wantBad(t, "a nil Reader", r)
	n := 7
	r.Nums(nil, &n)
	if n != 0 {
		t.Error("a nil Reader gives", n)
	}
}

// P1.4: it goes through calls of a Writer and a Reader of what it laid, as a rule picks them, and holds what is taken against what was laid.
func TestTakenAsLaid(t *testing.T) {
	state := uint64(1)
	next := func(n int) int {
		state = state*6364136223846793005 + 1442695040888963407
		return int(state>>33) % n
	}
	for range 300 {
		var w octet.Writer
		var takes []func(r *octet.Reader) bool
		for range next(20) {
			row := make([]byte, next(200))
			for i := range row {
				row[i] = byte(next(256))
			}
			switch n := 1<<next(62) + next(1000); next(4) {
			case 0:
				w.Nums(n)
				takes = append(takes, func(r *octet.Reader) bool { return r.Num() == n })
			case 1:
				w.Nums(n, 1<<62-next(2), len(row))
				takes = append(takes, func(r *octet.Reader) bool {
					var a, c int
					r.Nums(&a, nil, &c)
					return a == n && c == len(row)
				})
			case 2:
				w.Bytes(row)
				takes = append(takes, func(r *octet.Reader) bool { return bytes.Equal(r.Bytes(), row) })
			default:
				w.Raw(row...)
				takes = append(takes, func(r *octet.Reader) bool { return bytes.Equal(r.Raw(len(row)), row) })
			}
		}
		r := octet.NewReader(w.Out())
		for i, take := range takes {
			if !take(r) || !r.Good() {
				t.Fatalf("step %d is not taken as it was laid", i)
			}
		}
		if !r.Whole() {
			t.Fatalf("%d bytes are left", r.Left())
		}
	}
}

// P1.2: each cut of what was laid ends too early.
func TestCutRowErrs(t *testing.T) {
	var w octet.Writer
	w.Nums(300, 1<<62)
	w.Bytes([]byte("abc"))
	w.Raw(1, 2)
	all := w.Out()
	for n := range len(all) {
		r := octet.NewReader(all[:n])
		r.Nums(nil, nil)
		r.Bytes()
		r.Raw(2)
		wantBad(t, n, r)
	}
}

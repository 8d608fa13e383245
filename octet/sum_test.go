package octet_test

import (
	"bytes"
	"hash/crc32"
	"testing"

	"winnower/octet"
)

// byDefinition is the sum digit by digit, as the document tells it.
func byDefinition(p []byte) uint32 {
	sum := uint32(0xffffffff)
	for _, b := range p {
		sum ^= uint32(b)
		for range 8 {
			low := sum & 1
			sum >>= 1
			if low == 1 {
				sum ^= 0xedb88320
			}
		}
	}
	return ^sum
}

// P1.3
func TestJoinIsAllRows(t *testing.T) {
	for _, c := range []struct {
		rows []string
		want string
	}{
		{nil, ""},
		{[]string{""}, ""},
		{[]string{"", "", ""}, ""},
		{[]string{"a"}, "a"},
		{[]string{"1234", "", "56789"}, "123456789"},
		{[]string{"b", "a", "b", "\x00", "\xff"}, "bab\x00\xff"},
	} {
		var rows [][]byte
		for _, row := range c.rows {
			rows = append(rows, []byte(row))
		}
		if got := octet.Join(rows...); string(got) != c.want {
			t.Errorf("%q: got %q", c.rows, got)
		}
	}
	wantBytes(t, "nil rows", octet.Join(nil, []byte("a"), nil), []byte("a"))
	wantBytes(t, "no row", octet.Join(), nil)
}

// P1.4
func TestJoinIsNewMemory(t *testing.T) {
	a, b := handIn("ab"), handIn("cd")
	rows := [][]byte{a.row(), b.row()}
	one, two := octet.Join(a.row()), octet.Join(rows...)
	again := octet.Join(a.row(), nil)
	_ = append(one, 'X')
	_ = append(two, 'Y')
	a.stays(t, "ab")
	b.stays(t, "cd")
	clear(one)
	clear(two)
	a.stays(t, "ab")
	b.stays(t, "cd")
	clear(a.room)
	if string(again) != "ab" || string(rows[1]) != "cd" {
		t.Errorf("an answer shares an argument: %q", again)
	}
}

// P1.3
func TestSumExamples(t *testing.T) {
	for _, c := range []struct {
		rows []string
		want uint32
	}{
		{nil, 0},
		{[]string{""}, 0},
		{[]string{"", ""}, 0},
		{[]string{"1234", "56789"}, 0xcbf43926},
		{[]string{"123456789"}, 0xcbf43926},
		{[]string{"", "1", "", "23456789", ""}, 0xcbf43926},
		{[]string{"\x00"}, 0xd202ef8d},
		{[]string{"\xff\xff\xff\xff"}, 0xffffffff},
		{[]string{"a"}, 0xe8b7be43},
	} {
		var rows [][]byte
		for _, row := range c.rows {
			rows = append(rows, []byte(row))
		}
		if got := octet.Sum(rows...); got != c.want {
			t.Errorf("%q: got %x, want %x", c.rows, got, c.want)
		}
	}
	if got := octet.Sum(nil, []byte("a"), nil); got != 0xe8b7be43 {
		t.Errorf("nil rows: %x", got)
	}
}

// P1.3
func TestSumIsOfTheJoin(t *testing.T) {
	var all []byte
	for n := range 600 {
		a, b := n/3, n/2
		got := octet.Sum(all[:a], all[a:b], all[b:])
		if got != crc32.ChecksumIEEE(all) || got != byDefinition(all) || got != octet.Sum(all) || got != octet.Sum(octet.Join(all[:a], all[a:])) {
			t.Errorf("%d bytes: %x", n, got)
		}
		all = append(all, byte(n*n+n>>3))
	}
	for b := range 256 {
		if p := []byte{byte(b)}; octet.Sum(p) != byDefinition(p) {
			t.Errorf("of %x: %x", b, octet.Sum(p))
		}
	}
	long := bytes.Repeat(all, 200)
	if octet.Sum(long) != crc32.ChecksumIEEE(long) {
		t.Error("a long row")
	}
}

// P1.4
func TestSumsOfUnlikeRows(t *testing.T) {
	for _, row := range [][]byte{{0}, []byte("abc"), make([]byte, 64), bytes.Repeat([]byte{0xff}, 60)} {
		sum := octet.Sum(row)
		for i := range row {
			for change := 1; change < 256; change++ {
				other := bytes.Clone(row)
				other[i] ^= byte(change)
				if octet.Sum(other) == sum {
					t.Errorf("% x and % x have one sum", row, other)
				}
			}
		}
	}
}

// P1.4
func TestSumLeavesWhatIsHandedIn(t *testing.T) {
	a, b := handIn("ab"), handIn("cd")
	rows := [][]byte{a.row(), b.row()}
	first := octet.Sum(rows...)
	a.stays(t, "ab")
	b.stays(t, "cd")
	if octet.Sum(rows...) != first || string(rows[0]) != "ab" || string(rows[1]) != "cd" {
		t.Error("what was handed in changed")
	}
}

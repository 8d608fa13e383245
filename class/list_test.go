package class_test

import (
	"slices"
	"testing"

	"winnower/api"
	"winnower/class"
)

// joinOfRanges is the rows of a set, joined.
func joinOfRanges(s api.Set) api.Set {
	var rows []api.Set
	for _, row := range class.Ranges(s) {
		rows = append(rows, class.Range(row[0], row[1]))
	}
	return class.Join(rows...)
}

// P5.1: the example.
func TestExample(t *testing.T) {
	if got := class.Ranges(class.Of(97, 98, 100)); !slices.Equal(got, [][2]byte{{97, 98}, {100, 100}}) {
		t.Error(got)
	}
}

// P5.1
func TestCount(t *testing.T) {
	if class.Count(api.Set{}) != 0 || class.Count(class.Range(0, 255)) != 256 {
		t.Error(class.Count(api.Set{}), class.Count(class.Range(0, 255)))
	}
	for i := range 4 {
		var s api.Set
		s[i] = ^uint64(0)
		if n := class.Count(s); n != 64 {
			t.Errorf("word %d: %d", i, n)
		}
	}
	for _, p := range plains() {
		if got, want := class.Count(p.set()), len(p.list()); got != want {
			t.Errorf("%v: Count %d, want %d", p.ranges(), got, want)
		}
	}
}

// P5.1
func TestListAndRangesEdges(t *testing.T) {
	for _, at := range []struct {
		what   string
		set    api.Set
		list   []byte
		ranges [][2]byte
	}{
		{"none", api.Set{}, nil, nil},
		{"the first byte", api.Set{1}, []byte{0}, [][2]byte{{0, 0}}},
		{"the last byte", api.Set{3: 1 << 63}, []byte{255}, [][2]byte{{255, 255}}},
		{"first and last", api.Set{0: 1, 3: 1 << 63}, []byte{0, 255}, [][2]byte{{0, 0}, {255, 255}}},
		{"over the first word's end", api.Set{3 << 62, 3}, []byte{62, 63, 64, 65}, [][2]byte{{62, 65}}},
		{"over the second word's end", api.Set{0, 1 << 63, 1}, []byte{127, 128}, [][2]byte{{127, 128}}},
		{"over the third word's end", api.Set{2: 1 << 63, 3: 1}, []byte{191, 192}, [][2]byte{{191, 192}}},
		{"beside the first word's end", api.Set{1 << 63, 2}, []byte{63, 65}, [][2]byte{{63, 63}, {65, 65}}},
		{"up to 255", api.Set{3: 7 << 61}, []byte{253, 254, 255}, [][2]byte{{253, 255}}},
	} {
		if got := class.List(at.set); !slices.Equal(got, at.list) {
			t.Errorf("%s: List %v", at.what, got)
		}
		if got := class.Ranges(at.set); !slices.Equal(got, at.ranges) {
			t.Errorf("%s: Ranges %v", at.what, got)
		}
	}
}

// P5.1
func TestListAndRangesOfAll(t *testing.T) {
	all := class.Range(0, 255)
	list := class.List(all)
	if len(list) != 256 {
		t.Fatal(len(list))
	}
	for i, b := range list {
		if int(b) != i {
			t.Error(i, b)
		}
	}
	if got := class.Ranges(all); !slices.Equal(got, [][2]byte{{0, 255}}) {
		t.Error(got)
	}
}

// P5.1
func TestListAndRangesOfEverySecond(t *testing.T) {
	for odd := range 2 {
		word := uint64(0x5555555555555555) << odd
		s := api.Set{word, word, word, word}
		list, rows := class.List(s), class.Ranges(s)
		if len(list) != 128 || len(rows) != 128 {
			t.Fatal(len(list), len(rows))
		}
		for i := range 128 {
			b := byte(2*i + odd)
			if list[i] != b || rows[i] != [2]byte{b, b} {
				t.Error(i, list[i], rows[i])
			}
		}
	}
}

// P5.1: of any set they are what plain words tell, and a set of them is it.
func TestListAndRangesBack(t *testing.T) {
	for _, p := range plains() {
		s := p.set()
		if got := class.List(s); !slices.Equal(got, p.list()) {
			t.Errorf("List %v, want %v", got, p.list())
		}
		if got := class.Ranges(s); !slices.Equal(got, p.ranges()) {
			t.Errorf("Ranges %v, want %v", got, p.ranges())
		}
		p.wants(t, "Of its List", class.Of(class.List(s)...))
		p.wants(t, "its Ranges joined", joinOfRanges(s))
	}
}

// W6, W7: what is answered is new memory, spare room too.
func TestAnswersAreNew(t *testing.T) {
	p := plainOf(0, 1, 63, 64, 200, 255)
	s := p.set()
	list, rows := class.List(s), class.Ranges(s)
	otherList, otherRows := class.List(s), class.Ranges(s)
	clear(list[:cap(list)])
	clear(rows[:cap(rows)])
	_ = append(list, 7, 7)
	if !slices.Equal(otherList, p.list()) || !slices.Equal(otherRows, p.ranges()) {
		t.Error("another answer became", otherList, otherRows)
	}
	if !slices.Equal(class.List(s), p.list()) || !slices.Equal(class.Ranges(s), p.ranges()) {
		t.Error("a later answer:", class.List(s), class.Ranges(s))
	}
	p.wants(t, "the set", s)

	none, all := class.Join(), class.Meet()
	for i := range none {
		none[i], all[i] = 5, 0
	}
	plain{}.wants(t, "Join()", class.Join())
	plainRange(0, 255).wants(t, "Meet()", class.Meet())
}

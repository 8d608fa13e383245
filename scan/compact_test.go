package scan_test

import (
	"math"
	"math/rand"
	"slices"
	"testing"

	"winnower/api"
	"winnower/scan"
)

// mayNot is automata that may not be; each ends at once, and by a, if one overlooks that.
func mayNot() map[string]api.Dfa {
	good := func() api.Dfa { return hand(2, []arrow{{0, 'a', 1}, {1, 'a', 0}}, 0, 1) }
	many := hand(129, []arrow{{0, 'a', 1}}, 0, 1)
	l := map[string]api.Dfa{
		"none":          {},
		"no Next":       {Ends: []bool{true}},
		"no Ends":       {Next: good().Next},
		"Ends too few":  {Next: good().Next, Ends: []bool{true}},
		"Ends too many": {Next: good().Next, Ends: []bool{true, true, true}},
		"129 states":    many,
		"129, 128 Ends": {Next: many.Next, Ends: many.Ends[:128]},
		"128, 129 Ends": {Next: many.Next[:128], Ends: many.Ends},
	}
	for what, to := range map[string]int{"-2": -2, "2": 2, "the greatest": math.MaxInt, "the least": math.MinInt} {
		d := good()
		d.Next[1][255] = to
		l["leads to "+what] = d
	}
	return l
}

// P11.1: ErrArg, and Longest -1, if d may not be.
func TestMayNotBe(t *testing.T) {
	for what, d := range mayNot() {
		if table, e := scan.Compact(d); e != api.ErrArg || tell(table) != tell(scan.Table{}) {
			t.Errorf("%s: error %d, %s", what, e, tell(table))
		}
		for _, s := range []string{"", "a", "aa", "\xff"} {
			for at := -1; at <= len(s)+1; at++ {
				if got := scan.Longest(d, s, at); got != -1 {
					t.Errorf("%s: Longest(%q, %d) = %d", what, s, at, got)
				}
			}
		}
	}
}

// P11.1: classes as their least bytes rise, Next by classes, Ends of each state.
func TestCompact(t *testing.T) {
	for _, at := range []struct {
		what string
		d    api.Dfa
		of   map[byte]int // of some bytes the class; all others are of class 0
		next [][]int
	}{
		{"one state, one class", hand(1, nil), nil, [][]int{{-1}}},
		{"one state that ends", hand(1, nil, 0), nil, [][]int{{-1}}},
		{"one state, that leads to itself", hand(1, []arrow{{0, 'a', 0}}, 0), map[byte]int{'a': 1}, [][]int{{-1, 0}}},
		{"two bytes alike", hand(2, []arrow{{0, 'x', 1}, {0, 'b', 1}}, 1), map[byte]int{'b': 1, 'x': 1}, [][]int{{-1, 1}, {-1, -1}}},
		{"two bytes that part in the first state", hand(2, []arrow{{0, 'x', 1}, {0, 'b', 0}}, 1), map[byte]int{'b': 1, 'x': 2}, [][]int{{-1, 0, 1}, {-1, -1, -1}}},
		{"two bytes that part in the last state", hand(3, []arrow{{0, 'x', 1}, {0, 'b', 1}, {2, 'x', 1}}, 1), map[byte]int{'b': 1, 'x': 2}, [][]int{{-1, 1, 1}, {-1, -1, -1}, {-1, -1, 1}}},
		{"many in turn", hand(2, []arrow{{0, 'd', 1}, {0, 'c', 0}, {0, 'b', 1}, {0, 'a', 0}}, 1), map[byte]int{'a': 1, 'b': 2, 'c': 1, 'd': 2}, [][]int{{-1, 0, 1}, {-1, -1, -1}}},
		{"the last byte", hand(1, []arrow{{0, 255, 0}}, 0), map[byte]int{255: 1}, [][]int{{-1, 0}}},
	} {
		table := compact(t, at.d)
		for b, got := range table.Class {
			if want := at.of[byte(b)]; got != want {
				t.Errorf("%s: byte %d is of class %d, want %d", at.what, b, got, want)
			}
		}
		if !slices.EqualFunc(table.Next, at.next, slices.Equal) {
			t.Errorf("%s: Next %v, want %v", at.what, table.Next, at.next)
		}
		if !slices.Equal(table.Ends, at.d.Ends) {
			t.Errorf("%s: Ends %v, want %v", at.what, table.Ends, at.d.Ends)
		}
		wantsTable(t, at.what, at.d)
	}
	// The least byte makes class 0, whatever it leads to.
	d := hand(2, []arrow{{0, 0, 1}}, 1)
	if table := compact(t, d); table.Class[0] != 0 || table.Class[1] != 1 || table.Class[255] != 1 || !slices.Equal(table.Next[0], []int{1, -1}) || !slices.Equal(table.Next[1], []int{-1, -1}) {
		t.Error(tell(table))
	}
}

// P11.1: all bytes of one class, and 256 classes.
func TestManyClasses(t *testing.T) {
	d := hand(128, nil, 3, 127)
	table := compact(t, d)
	if table.Class != [256]int{} || len(table.Next) != 128 || len(table.Next[127]) != 1 || table.Next[127][0] != -1 {
		t.Error(tell(table))
	}
	wantsTable(t, "one class", d)
	// Only the first and the last of many states tell the bytes apart.
	for b := range 256 {
		d.Next[0][b], d.Next[127][b] = b%128, b/128
	}
	table = compact(t, d)
	for b, got := range table.Class {
		if got != b {
			t.Errorf("byte %d is of class %d", b, got)
		}
	}
	if len(table.Next) != 128 || len(table.Next[0]) != 256 || table.Next[0][200] != 72 || table.Next[127][200] != 1 || table.Next[1][200] != -1 || !slices.Equal(table.Ends, d.Ends) {
		t.Error(tell(table))
	}
	wantsTable(t, "256 classes", d)
	// Turned round they are numbered by their least bytes all the same.
	for b := range 256 {
		d.Next[0][b], d.Next[127][b] = (255-b)%128, (255-b)/128
	}
	wantsTable(t, "turned round", d)
}

// P11.1: of expressions, and by chance.
func TestCompactOfMany(t *testing.T) {
	for _, s := range []string{"", "a", "a*b", "(a|b)*abb", "[0-9]{1,3}(\\.[0-9]{1,3}){3}", "[A-Za-z_][A-Za-z0-9_]*", ".", "[^\\x00]*", "b{1,9}(a|b){11}"} {
		wantsTable(t, s, build(t, s))
	}
	r := rand.New(rand.NewSource(111))
	for range 300 {
		d := anyDfa(r)
		wantsTable(t, d.Ends, d)
	}
}

// tellBut is a table without a row in words.
func tellBut(table scan.Table, row int) string {
	table.Next = slices.Delete(slices.Clone(table.Next), row, row+1)
	return tell(table)
}

// P11.3, W6, W7: what is handed in is left as it is and not kept, what is answered is new memory, spare room too.
func TestMemory(t *testing.T) {
	for _, s := range []string{"(a|b)*abb", "a", "[a-z][0-9]?"} {
		whole := build(t, s)
		n := len(whole.Next)
		next, ends := append(whole.Next, [256]int{7}), append(whole.Ends, true)
		d := api.Dfa{Next: next[:n], Ends: ends[:n]}
		first, second := compact(t, d), compact(t, d)
		scan.Longest(d, "abb", 0)
		want := tell(first)
		if next[n] != [256]int{7} || !ends[n] || tell(compact(t, d)) != want {
			t.Errorf("%s: what was handed in was changed", s)
		}
		wantsTable(t, s, d)
		for i, row := range first.Next {
			told := tellBut(first, i)
			clear(row[:cap(row)])
			_ = append(row, 9, 9, 9)
			if got := tellBut(first, i); got != told {
				t.Errorf("%s: row %d shares memory with another", s, i)
			}
		}
		clear(first.Next[:cap(first.Next)])
		clear(first.Ends[:cap(first.Ends)])
		if tell(second) != want || tell(compact(t, d)) != want {
			t.Errorf("%s: another answer became %s", s, tell(second))
		}
		clear(next)
		clear(ends)
		if tell(second) != want {
			t.Errorf("%s: an answer became %s", s, tell(second))
		}
	}
}

package mini_test

import (
	"fmt"
	"math/rand"
	"slices"
	"strings"
	"testing"

	"winnower/api"
	"winnower/dfa"
	"winnower/glush"
	"winnower/mini"
	"winnower/regex"
)

// build is the automaton of a text's expression.
func build(t *testing.T, s string) api.Dfa {
	t.Helper()
	r, at, e := regex.Parse(s)
	if e != api.OK {
		t.Fatalf("Parse(%q): error %d at %d", s, e, at)
	}
	g, e := glush.Of(r)
	if e != api.OK {
		t.Fatalf("Of(%q): error %d", s, e)
	}
	d, e := dfa.Build(g)
	if e != api.OK {
		t.Fatalf("Build(%q): error %d", s, e)
	}
	return d
}

// minimal is the least automaton of one that may be.
func minimal(t *testing.T, d api.Dfa) api.Dfa {
	t.Helper()
	m, e := mini.Minimal(d)
	if e != api.OK {
		t.Fatalf("Minimal(%s): error %d", tell(d), e)
	}
	return m
}

// arrow is a state that leads by a byte to another.
type arrow struct {
	from int
	b    byte
	to   int
}

// hand is an automaton put together by hand: so many states, that lead nowhere but by arrows, and those at which one may end.
func hand(n int, arrows []arrow, ends ...int) api.Dfa {
	d := api.Dfa{Next: make([][256]int, n), Ends: make([]bool, n)}
	for i := range d.Next {
		for b := range d.Next[i] {
			d.Next[i][b] = -1
		}
	}
	for _, a := range arrows {
		d.Next[a.from][a.b] = a.to
	}
	for _, state := range ends {
		d.Ends[state] = true
	}
	return d
}

// clone is the same in new memory.
func clone(d api.Dfa) api.Dfa {
	return api.Dfa{Next: slices.Clone(d.Next), Ends: slices.Clone(d.Ends)}
}

// renumbered is an automaton whose states stand in another order; state 0 stays.
func renumbered(d api.Dfa, order []int) api.Dfa {
	other := clone(d)
	for from, row := range d.Next {
		for b, to := range row {
			if to != -1 {
				to = order[to]
			}
			other.Next[order[from]][b] = to
		}
		other.Ends[order[from]] = d.Ends[from]
	}
	return other
}

// anyOrder is the numbers from 0 on, 0 in its place, all others by chance.
func anyOrder(r *rand.Rand, n int) []int {
	order := []int{0}
	for _, k := range r.Perm(n - 1) {
		order = append(order, k+1)
	}
	return order
}

// tell is an automaton in words: of each state `!`, if one may end there, and where it leads, neighbours that lead to the same as one.
func tell(d api.Dfa) string {
	var b strings.Builder
	for i, row := range d.Next {
		if i > 0 {
			b.WriteString("; ")
		}
		if i < len(d.Ends) && d.Ends[i] {
			b.WriteString("!")
		}
		for low := 0; low < 256; {
			high := low
			for high < 255 && row[high+1] == row[low] {
				high++
			}
			if row[low] != -1 {
				fmt.Fprintf(&b, " %s>%d", bytesTold(low, high), row[low])
			}
			low = high + 1
		}
	}
	if len(d.Ends) != len(d.Next) {
		fmt.Fprintf(&b, " (%d Ends)", len(d.Ends))
	}
	return b.String()
}

func bytesTold(low, high int) string {
	name := func(b int) string {
		if 'a' <= b && b <= 'z' {
			return string(rune(b))
		}
		return fmt.Sprintf("%02x", b)
	}
	if low == high {
		return name(low)
	}
	return name(low) + "-" + name(high)
}

// plainAlive tells of each state whether an end is reached, looking again as often as there are states.
func plainAlive(d api.Dfa) []bool {
	alive := slices.Clone(d.Ends)
	for range d.Next {
		for state, row := range d.Next {
			for _, to := range row {
				if to != -1 && alive[to] {
					alive[state] = true
				}
			}
		}
	}
	return alive
}

// bytesThatDiffer is the least byte of each kind of bytes that lead alike from all states: it is enough to look at these.
func bytesThatDiffer(d api.Dfa) []int {
	var list []int
	seen := map[string]bool{}
	for b := range 256 {
		var column []int
		for _, row := range d.Next {
			column = append(column, row[b])
		}
		if key := fmt.Sprint(column); !seen[key] {
			seen[key] = true
			list = append(list, b)
		}
	}
	return list
}

// apart tells of each two states, and of nowhere (the last one), whether a text leads from one of them to an end and not from the other.
func apart(d api.Dfa) [][]bool {
	n := len(d.Next)
	ends := append(slices.Clone(d.Ends), false)
	to := func(state, b int) int {
		if state == n || d.Next[state][b] == -1 {
			return n
		}
		return d.Next[state][b]
	}
	marks := make([][]bool, n+1)
	for i := range marks {
		marks[i] = make([]bool, n+1)
		for k := range marks[i] {
			marks[i][k] = ends[i] != ends[k]
		}
	}
	list := bytesThatDiffer(d)
	for more := true; more; {
		more = false
		for i := range marks {
			for k := range marks[i] {
				for _, b := range list {
					if !marks[i][k] && marks[to(i, b)][to(k, b)] {
						marks[i][k], more = true, true
					}
				}
			}
		}
	}
	return marks
}

// model is the least automaton in plain words: from 0 on, a state is the first one met that no text tells apart.
func model(d api.Dfa) api.Dfa {
	marks, nowhere := apart(d), len(d.Next)
	met := []int{0}
	var m api.Dfa
	for at := 0; at < len(met); at++ {
		var row [256]int
		for b := range row {
			row[b] = -1
			to := d.Next[met[at]][b]
			if to == -1 || !marks[to][nowhere] {
				continue
			}
			n := slices.IndexFunc(met, func(state int) bool { return !marks[state][to] })
			if n < 0 {
				n = len(met)
				met = append(met, to)
			}
			row[b] = n
		}
		m.Next, m.Ends = append(m.Next, row), append(m.Ends, d.Ends[met[at]])
	}
	return m
}

// wantsModel holds what Alive and Minimal tell of one that may be.
func wantsModel(t *testing.T, d api.Dfa) {
	t.Helper()
	if got, want := mini.Alive(d), plainAlive(d); !slices.Equal(got, want) {
		t.Errorf("Alive(%s) = %v, want %v", tell(d), got, want)
	}
	got, e := mini.Minimal(d)
	if want := model(d); e != api.OK || tell(got) != tell(want) || !dfa.Same(got, want) {
		t.Errorf("Minimal(%s): error %d, %s, want %s", tell(d), e, tell(got), tell(want))
	}
	if again, e := mini.Minimal(got); e != api.OK || !dfa.Same(again, got) {
		t.Errorf("Minimal of Minimal(%s): error %d, %s, want %s", tell(d), e, tell(again), tell(got))
	}
}

// anyDfa is an automaton by chance, of few states that lead by few bytes.
func anyDfa(r *rand.Rand) api.Dfa {
	n := 1 + r.Intn(8)
	var arrows []arrow
	for from := range n {
		for _, b := range []byte{'a', 'b', 0, 255}[r.Intn(2) : 2+r.Intn(3)] {
			if r.Intn(4) > 0 {
				arrows = append(arrows, arrow{from, b, r.Intn(n)})
			}
		}
	}
	d := hand(n, arrows)
	for state := range n {
		d.Ends[state] = r.Intn(3) == 0
	}
	return d
}

// doubled is an automaton with the same texts and states that are there twice, each byte leading to one or the other by chance.
func doubled(r *rand.Rand, d api.Dfa) api.Dfa {
	n := len(d.Next)
	other := api.Dfa{Next: append(slices.Clone(d.Next), d.Next...), Ends: append(slices.Clone(d.Ends), d.Ends...)}
	for state := range other.Next {
		for b, to := range other.Next[state] {
			if to != -1 && r.Intn(2) == 0 {
				other.Next[state][b] = to + n
			}
		}
	}
	return other
}

// eachText calls for each text of some bytes that has at most so many.
func eachText(bytes string, most int, call func(s string)) {
	call("")
	if most == 0 {
		return
	}
	for i := range len(bytes) {
		eachText(bytes, most-1, func(s string) { call(bytes[i:i+1] + s) })
	}
}

package plan_test

import (
	"math"
	"math/rand"
	"slices"
	"sync"
	"testing"

	"winnower/api"
	"winnower/plan"
)

// The example: P19.1.
func TestExample(t *testing.T) {
	if at, ok := plan.Pick(chain(0, 5, 3, 4)...); at != 1 || !ok {
		t.Errorf("%d, %v", at, ok)
	}
}

// around is a span at each place among others that stand beside it and may be.
func around(s api.Span) [][]api.Span {
	ahead, behind := span(1<<20, s.First-3, 3), span(1<<21, s.First+s.Count, 2)
	var l [][]api.Span
	l = append(l, []api.Span{s})
	if ahead.First >= 0 && ahead.First <= api.MaxIndex {
		l = append(l, []api.Span{ahead, s})
	}
	if behind.First >= 0 && behind.First <= api.MaxIndex {
		l = append(l, []api.Span{s, behind})
	}
	return l
}

// P19.1: none, one; each number at its edges, at each place.
func TestIs(t *testing.T) {
	wantsGood(t, "none")
	wantsGood(t, "none", []api.Span{}...)
	for _, id := range []int{1, 2, 1 << 30, api.MaxIndex - 1, api.MaxIndex} {
		for _, l := range around(span(id, 9, 4)) {
			wantsGood(t, "ID", l...)
		}
	}
	for _, id := range []int{0, -1, math.MinInt, api.MaxIndex + 1, math.MaxInt} {
		for _, l := range around(span(id, 9, 4)) {
			wantsWrong(t, "ID", l...)
		}
	}
	for _, first := range []int{0, 1, 3, api.MaxIndex - 1, api.MaxIndex} {
		for _, l := range around(span(5, first, 4)) {
			wantsGood(t, "First", l...)
		}
	}
	for _, first := range []int{-1, -2, -4, math.MinInt, api.MaxIndex + 1, api.MaxIndex + 3, math.MaxInt, math.MaxInt - 4} {
		for _, l := range around(span(5, first, 4)) {
			wantsWrong(t, "First", l...)
		}
	}
	for _, count := range []int{1, 2, 511, 512} {
		for _, l := range around(span(5, 9, count)) {
			wantsGood(t, "Count", l...)
		}
	}
	for _, count := range []int{0, -1, -9, math.MinInt, 513, 514, 1 << 35, math.MaxInt} {
		for _, l := range around(span(5, 9, count)) {
			wantsWrong(t, "Count", l...)
		}
	}
	wantsWrong(t, "the zero value", api.Span{})
}

// P19.1: each ID once.
func TestIsOnce(t *testing.T) {
	l := chain(4, 3, 2, 1, 5, 6)
	wantsGood(t, "each once", l...)
	for i := range l {
		for k := range i {
			twice := slices.Clone(l)
			twice[i].ID = twice[k].ID
			wantsWrong(t, "one twice", twice...)
		}
	}
	slices.Reverse(l)
	for k := range l {
		l[k].First = 100 + 7*k
		l[k].Count = 7
	}
	wantsGood(t, "falling", l...)
}

// P19.1: each begins where the one ahead ends.
func TestIsChain(t *testing.T) {
	l := chain(4, 3, 2, 1, 5)
	for k := 1; k < len(l); k++ {
		for _, d := range []int{-4, -2, -1, 1, 2, 4} {
			apart := slices.Clone(l)
			apart[k].First += d
			wantsWrong(t, "one apart", apart...)
			for i := k + 1; i < len(l); i++ {
				apart[i].First += d
			}
			wantsWrong(t, "all behind apart", apart...)
			apart = slices.Clone(l)
			apart[k-1].Count = max(1, apart[k-1].Count+d)
			if apart[k-1].Count != l[k-1].Count {
				wantsWrong(t, "one longer or shorter", apart...)
			}
		}
	}
	wantsGood(t, "the last may end behind MaxIndex", span(1, api.MaxIndex-2, 2), span(2, api.MaxIndex, 512))
	wantsWrong(t, "none begins there", span(1, api.MaxIndex, 1), span(2, api.MaxIndex+1, 1))
	wantsWrong(t, "one twice", span(1, 5, 2), span(2, 5, 2))
	wantsWrong(t, "in no order", span(1, 5, 2), span(2, 3, 2))
}

// P19.1: the place of the two that have the fewest together, of alike ones the first.
func TestPick(t *testing.T) {
	for _, at := range []struct {
		counts []int
		want   int // -1: none
	}{
		{nil, -1}, {[]int{1}, -1}, {[]int{512}, -1}, {[]int{256}, -1},
		{[]int{1, 1}, 0}, {[]int{256, 256}, 0}, {[]int{511, 1}, 0}, {[]int{1, 511}, 0},
		{[]int{257, 256}, -1}, {[]int{512, 1}, -1}, {[]int{1, 512}, -1}, {[]int{512, 512}, -1},
		{[]int{5, 3, 4}, 1}, {[]int{3, 5, 4}, 0}, {[]int{4, 3, 5}, 0}, {[]int{5, 4, 3}, 1},
		{[]int{2, 2, 2}, 0}, {[]int{2, 2, 2, 2, 2}, 0}, {[]int{1, 3, 1, 3}, 0}, {[]int{9, 1, 3, 1, 3}, 1}, {[]int{4, 2, 3, 1, 9, 2}, 2}, {[]int{4, 2, 3, 2, 3}, 1},
		{[]int{512, 1, 512}, -1}, {[]int{512, 1, 511, 1}, 1}, {[]int{1, 512, 1, 511}, 2}, {[]int{512, 300, 213, 300, 212}, 3},
		{[]int{511, 1, 511, 1, 510, 2}, 3}, {[]int{400, 100, 400, 1, 400}, 2},
	} {
		l := chain(11, at.counts...)
		got, ok := plan.Pick(l...)
		if got != max(at.want, 0) || ok != (at.want >= 0) {
			t.Errorf("Pick of %v: %d, %v, want %d", at.counts, got, ok, at.want)
		}
		wants(t, at.counts, l)
	}
}

// P19.2: at each place; the number id, whatever it is.
func TestJoin(t *testing.T) {
	l := chain(6, 5, 3, 4, 500, 12)
	for _, id := range []int{0, 1, 3, -1, 99, api.MaxIndex, api.MaxIndex + 1, math.MinInt, math.MaxInt} {
		got, ok := plan.Join(l, 1, id)
		if want := []api.Span{l[0], span(id, 11, 7), l[3], l[4]}; !ok || !slices.Equal(got, want) {
			t.Errorf("of number %d: %v, %v", id, got, ok)
		}
		for at := range l {
			wantsJoin(t, id, l, at, id)
		}
	}
	for at, want := range map[int][]api.Span{
		0: {span(9, 6, 8), l[2], l[3], l[4]}, 2: {l[0], l[1], span(9, 14, 504), l[4]}, 3: {l[0], l[1], l[2], span(9, 18, 512)},
	} {
		if got, ok := plan.Join(l, at, 9); !ok || !slices.Equal(got, want) {
			t.Errorf("at %d: %v, %v", at, got, ok)
		}
	}
	for _, at := range []int{4, 5, 6, 100, -1, -2, math.MinInt, math.MaxInt} {
		if got, ok := plan.Join(l, at, 9); ok || !slices.Equal(got, l) {
			t.Errorf("at %d: %v, %v", at, got, ok)
		}
	}
}

// P19.2: where there are too few, or too many together.
func TestJoinNot(t *testing.T) {
	for _, l := range [][]api.Span{nil, {}, chain(3, 1), chain(3, 512, 1), chain(3, 1, 512), chain(3, 257, 256), chain(0, 512, 512, 512)} {
		for _, at := range []int{-1, 0, 1, 2, 3, math.MinInt, math.MaxInt} {
			if got, ok := plan.Join(l, at, 9); ok || !slices.Equal(got, l) {
				t.Errorf("of %v at %d: %v, %v", l, at, got, ok)
			}
		}
	}
	l := chain(3, 1, 512, 1, 511)
	for at := range l {
		if got, ok := plan.Join(l, at, 9); ok != (at == 2) || !ok && !slices.Equal(got, l) || ok && !slices.Equal(got, []api.Span{l[0], l[1], span(9, 516, 512)}) {
			t.Errorf("at %d: %v, %v", at, got, ok)
		}
	}
	wrong := chain(3, 1, 2, 3)
	wrong[2].ID = 1
	if got, ok := plan.Join(wrong, 0, 9); ok || !slices.Equal(got, wrong) {
		t.Errorf("%v, %v", got, ok)
	}
}

// P19.2: at numbers below all, at an end, beside one, the least and the greatest.
func TestDrop(t *testing.T) {
	l := chain(10, 5, 3, 4)
	for n, gone := range map[int]int{math.MinInt: 0, -1: 0, 0: 0, 9: 0, 10: 0, 11: 0, 14: 0, 15: 1, 16: 1, 17: 1, 18: 2, 19: 2, 21: 2, 22: 3, 23: 3, api.MaxIndex: 3, math.MaxInt: 3} {
		a, b := plan.Drop(l, n)
		if !slices.Equal(a, l[:gone]) || !slices.Equal(b, l[gone:]) {
			t.Errorf("at %d: %v and %v", n, a, b)
		}
		wantsDrop(t, n, l, n)
		a, b = plan.Drop(nil, n)
		if len(a) != 0 || len(b) != 0 {
			t.Errorf("of none at %d: %v and %v", n, a, b)
		}
	}
}

// P19.2: each for itself, in order, also of Spans that may not be, as great as numbers get.
func TestDropOfAny(t *testing.T) {
	mixed := []api.Span{span(1, 10, 5), span(2, 3, 1), span(3, 100, 7), span(4, 4, 11), span(4, 0, 15), span(0, 15, 0), span(0, 0, 16)}
	gone, stay := plan.Drop(mixed, 15)
	if !slices.Equal(gone, []api.Span{mixed[0], mixed[1], mixed[3], mixed[4], mixed[5]}) || !slices.Equal(stay, []api.Span{mixed[2], mixed[6]}) {
		t.Errorf("%v and %v", gone, stay)
	}
	edges := []int{math.MinInt, math.MinInt + 1, -1 << 62, -2, -1, 0, 1, 2, 512, 1 << 62, math.MaxInt - 1, math.MaxInt}
	var all []api.Span
	for _, first := range edges {
		for _, count := range edges {
			all = append(all, span(3, first, count))
		}
	}
	for _, n := range edges {
		wantsDrop(t, n, all, n)
	}
	for _, at := range []struct {
		s    api.Span
		n    int
		gone bool
	}{
		{span(1, math.MaxInt, 1), math.MaxInt, false}, {span(1, math.MaxInt, 0), math.MaxInt, true}, {span(1, math.MaxInt-1, 1), math.MaxInt, true},
		{span(1, math.MaxInt, math.MaxInt), math.MaxInt, false}, {span(1, 1, math.MaxInt), math.MaxInt, false}, {span(1, 0, math.MaxInt), math.MaxInt, true},
		{span(1, math.MinInt, math.MaxInt), math.MaxInt, true}, {span(1, math.MinInt, math.MaxInt), -1, true}, {span(1, math.MinInt, math.MaxInt), -2, false},
		{span(1, -1, math.MaxInt), math.MaxInt, true}, {span(1, math.MinInt, 1), math.MinInt, false}, {span(1, 0, math.MinInt), 0, true}, {span(1, 1, math.MinInt), 0, false},
	} {
		gone, stay := plan.Drop([]api.Span{at.s}, at.n)
		if (len(gone) == 1) != at.gone || (len(stay) == 1) == at.gone {
			t.Errorf("%v at %d: %v and %v", at.s, at.n, gone, stay)
		}
	}
}

// P19.1, P19.2: spans by chance; joined until nothing is left to do.
func TestByChance(t *testing.T) {
	r := rand.New(rand.NewSource(191))
	for range 5000 {
		l := byChance(r)
		wants(t, "by chance", l)
		for n := range 40 {
			wantsDrop(t, "by chance", l, 30*n)
		}
		for id := 10; ; id++ {
			at, ok := plan.Pick(l...)
			if !ok {
				break
			}
			next, ok := plan.Join(l, at, id)
			if !ok || !plan.Is(next...) || len(next) != len(l)-1 {
				t.Fatalf("%v at %d: %v, %v", l, at, next, ok)
			}
			l = next
			wants(t, "joined", l)
		}
	}
}

// roomy is a list with spare room behind it, and a span there.
func roomy(l []api.Span) []api.Span {
	r := append(make([]api.Span, 0, len(l)+4), l...)
	for i := len(l); i < cap(r); i++ {
		r[:cap(r)][i] = span(77, 7, 7)
	}
	return r
}

func spoil(l []api.Span) {
	for i := range l[:cap(l)] {
		l[:cap(l)][i] = span(55, 5, 5)
	}
}

// P19.3: what is handed in is neither changed nor kept; what is answered is new memory.
func TestMemory(t *testing.T) {
	wrong := chain(3, 1, 2, 3)
	wrong[1].ID = 0
	for _, l := range [][]api.Span{nil, chain(3, 1), chain(3, 1, 2, 3), chain(0, 300, 300, 300), chain(10, 5, 3, 4, 1, 9), wrong} {
		in := roomy(l)
		plan.Is(in...)
		plan.Pick(in...)
		var answers [][]api.Span
		for at := -1; at <= len(l); at++ {
			j, _ := plan.Join(in, at, 9)
			answers = append(answers, j)
		}
		for _, n := range []int{-1, 6, 15, 1000} {
			gone, stay := plan.Drop(in, n)
			answers = append(answers, gone, stay)
		}
		if !slices.Equal(in[:cap(in)], roomy(l)[:cap(in)]) {
			t.Errorf("%v became %v", roomy(l), in[:cap(in)])
		}
		var want [][]api.Span
		for _, a := range answers {
			want = append(want, slices.Clone(a))
		}
		spoil(in)
		for i, a := range answers {
			if !slices.Equal(a, want[i]) {
				t.Errorf("%v became %v", want[i], a)
			}
			spoil(a) // did another answer share with it, that would be another one by its turn
		}
		wants(t, "again", l)
	}
}

// W2: what is told does not depend on what was asked ahead, nor on who asks meanwhile.
func TestTogether(t *testing.T) {
	var all sync.WaitGroup
	for seed := range 4 {
		all.Go(func() {
			r := rand.New(rand.NewSource(int64(seed)))
			for range 200 {
				wants(t, "together", byChance(r))
			}
		})
	}
	all.Wait()
}

package plan_test

import (
	"fmt"
	"math/big"
	"math/rand"
	"slices"
	"testing"

	"winnower/api"
	"winnower/plan"
)

func span(id, first, count int) api.Span { return api.Span{ID: id, First: first, Count: count} }

// chain is spans from a line on, one behind the other, numbered from 1.
func chain(first int, counts ...int) []api.Span {
	var l []api.Span
	for k, n := range counts {
		l = append(l, span(k+1, first, n))
		first += n
	}
	return l
}

func short(l []api.Span) string { return fmt.Sprintf("%.200s (%d)", fmt.Sprint(l), len(l)) }

// may is what Is tells, look by look.
func may(l []api.Span) bool {
	for i, s := range l {
		if s.ID < 1 || s.ID > 1<<35 || s.First < 0 || s.First > 1<<35 || s.Count < 1 || s.Count > 512 {
			return false
		}
		if i > 0 && l[i-1].First+l[i-1].Count != s.First {
			return false
		}
		for _, other := range l[:i] {
			if other.ID == s.ID {
				return false
			}
		}
	}
	return true
}

// pick is what Pick tells, in plain words: all places, the one with the fewest lines first.
func pick(l []api.Span) (int, bool) {
	if !may(l) {
		return 0, false
	}
	var places []int
	for k := 0; k+1 < len(l); k++ {
		if l[k].Count+l[k+1].Count <= 512 {
			places = append(places, k)
		}
	}
	if len(places) == 0 {
		return 0, false
	}
	slices.SortStableFunc(places, func(a, b int) int {
		return l[a].Count + l[a+1].Count - l[b].Count - l[b+1].Count
	})
	return places[0], true
}

// join is what Join tells, in plain words.
func join(l []api.Span, at, id int) ([]api.Span, bool) {
	if !may(l) || at < 0 || at > len(l)-2 || l[at].Count+l[at+1].Count > 512 {
		return l, false
	}
	var all []api.Span
	for k, s := range l {
		switch k {
		case at:
			all = append(all, span(id, s.First, s.Count+l[k+1].Count))
		case at + 1:
		default:
			all = append(all, s)
		}
	}
	return all, true
}

// drop is what Drop tells, in whole numbers of any size.
func drop(l []api.Span, n int) (gone, stay []api.Span) {
	whole := func(n int) *big.Int { return big.NewInt(int64(n)) }
	for _, s := range l {
		left := new(big.Int).Sub(whole(n), whole(s.First))
		if left.Sign() >= 0 && whole(s.Count).Cmp(left) <= 0 {
			gone = append(gone, s)
		} else {
			stay = append(stay, s)
		}
	}
	return gone, stay
}

// wants holds all calls on some spans against plain words.
func wants(t *testing.T, what any, l []api.Span) {
	t.Helper()
	if got, want := plan.Is(l...), may(l); got != want {
		t.Errorf("%v: Is of %s: %v", what, short(l), got)
	}
	at, ok := plan.Pick(l...)
	if wantAt, want := pick(l); at != wantAt || ok != want {
		t.Errorf("%v: Pick of %s: %d, %v, want %d, %v", what, short(l), at, ok, wantAt, want)
	}
	for _, at := range []int{-1, 0, 1, len(l) - 2, len(l) - 1, len(l)} {
		wantsJoin(t, what, l, at, 99)
	}
	if len(l) > 0 {
		for _, n := range []int{l[0].First, l[len(l)-1].First} {
			wantsDrop(t, what, l, n)
		}
	}
}

func wantsJoin(t *testing.T, what any, l []api.Span, at, id int) {
	t.Helper()
	got, ok := plan.Join(l, at, id)
	if want, wantOK := join(l, at, id); ok != wantOK || !slices.Equal(got, want) {
		t.Errorf("%v: Join of %s at %d: %s, %v, want %s, %v", what, short(l), at, short(got), ok, short(want), wantOK)
	}
}

func wantsDrop(t *testing.T, what any, l []api.Span, n int) {
	t.Helper()
	gone, stay := plan.Drop(l, n)
	if wantGone, wantStay := drop(l, n); !slices.Equal(gone, wantGone) || !slices.Equal(stay, wantStay) {
		t.Errorf("%v: Drop of %s at %d: %s and %s, want %s and %s", what, short(l), n, short(gone), short(stay), short(wantGone), short(wantStay))
	}
}

// wantsGood and wantsWrong hold that spans may be, or not; of those that may not, nothing else tells anything.
func wantsGood(t *testing.T, what any, l ...api.Span) {
	t.Helper()
	if !plan.Is(l...) {
		t.Errorf("%v: %s may not be", what, short(l))
	}
	wants(t, what, l)
}

func wantsWrong(t *testing.T, what any, l ...api.Span) {
	t.Helper()
	if plan.Is(l...) {
		t.Errorf("%v: %s may be", what, short(l))
	}
	if at, ok := plan.Pick(l...); ok || at != 0 {
		t.Errorf("%v: Pick of %s: %d, %v", what, short(l), at, ok)
	}
	for at := range len(l) {
		if got, ok := plan.Join(l, at, 7); ok || !slices.Equal(got, l) {
			t.Errorf("%v: Join of %s at %d: %s, %v", what, short(l), at, short(got), ok)
		}
	}
	wants(t, what, l)
}

// byChance is spans that may be, or nearly so.
func byChance(r *rand.Rand) []api.Span {
	l := chain(r.Intn(20), make([]int, r.Intn(6))...)
	at := r.Intn(20)
	for k := range l {
		l[k] = span(k+1, at, []int{1, 2, 3, 255, 256, 257, 511, 512}[r.Intn(8)])
		at += l[k].Count
	}
	if len(l) > 0 && r.Intn(3) == 0 {
		s := &l[r.Intn(len(l))]
		*[]*int{&s.ID, &s.First, &s.Count}[r.Intn(3)] += r.Intn(3) - 1
	}
	return l
}

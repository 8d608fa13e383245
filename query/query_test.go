package query_test

import (
	"fmt"
	"maps"
	"math"
	"math/rand"
	"slices"
	"strings"
	"sync"
	"testing"

	"winnower/api"
	"winnower/part"
	"winnower/query"
	"winnower/store"
)

// P23.1: the example.
func TestExample(t *testing.T) {
	e := made(t, appends("up 3", "up 4", "3 x"))
	wantsNumbers(t, "ByField", e.ByField(api.TokNumber, "3"), 0, 2)
}

// mixed is an engine whose lines 2 to 4 are in two segments, 5 and 6 in batches, 7 and 8 in the memory, 0 and 1 gone.
func mixed(t *testing.T) (*query.Engine, rows) {
	t.Helper()
	lines := []string{"gone 1", "gone 2", "up 3", "", "up 4", "3 x 3", "down -3", "up 3", "x"}
	e := made(t, appends(lines[:2]...), seals, appends(lines[2:4]...), seals, appends(lines[4]), seals, drops(2), appends(lines[5]), syncs, appends(lines[6]), syncs, appends(lines[7:]...))
	return e, rowsOf(2, lines...)
}

// P23.1: Range at each pair of places in and about the lines, of lines in segments, in batches, in the memory, and across them.
func TestRange(t *testing.T) {
	e, r := mixed(t)
	r.wants(t, "mixed", e)
	for _, at := range []struct {
		from, to int
		lines    []string
		err      api.Errno
	}{
		{2, 9, []string{"up 3", "", "up 4", "3 x 3", "down -3", "up 3", "x"}, api.OK},
		{2, 2, nil, api.OK}, {9, 9, nil, api.OK}, {5, 5, nil, api.OK},
		{2, 3, []string{"up 3"}, api.OK}, {8, 9, []string{"x"}, api.OK}, {4, 6, []string{"up 4", "3 x 3"}, api.OK}, {6, 8, []string{"down -3", "up 3"}, api.OK}, {3, 5, []string{"", "up 4"}, api.OK},
		{1, 1, nil, api.ErrNone}, {1, 2, nil, api.ErrNone}, {1, 9, nil, api.ErrNone}, {0, 0, nil, api.ErrNone}, {-1, 5, nil, api.ErrNone}, {math.MinInt, math.MaxInt, nil, api.ErrNone}, {math.MinInt, math.MinInt, nil, api.ErrNone}, {math.MinInt, 2, nil, api.ErrNone},
		{9, 10, nil, api.ErrNone}, {2, 10, nil, api.ErrNone}, {10, 10, nil, api.ErrNone}, {2, math.MaxInt, nil, api.ErrNone}, {math.MaxInt, math.MaxInt, nil, api.ErrNone},
		// ErrArg goes ahead of ErrNone.
		{3, 2, nil, api.ErrArg}, {9, 2, nil, api.ErrArg}, {2, 1, nil, api.ErrArg}, {1, 0, nil, api.ErrArg}, {10, 9, nil, api.ErrArg}, {12, 11, nil, api.ErrArg}, {10, 1, nil, api.ErrArg}, {math.MaxInt, math.MinInt, nil, api.ErrArg}, {5, math.MinInt, nil, api.ErrArg}, {math.MaxInt, 5, nil, api.ErrArg},
	} {
		lines, err := e.Range(at.from, at.to)
		if err != at.err || !slices.Equal(lines, at.lines) {
			t.Errorf("Range(%d, %d): error %d, %q, want error %d, %q", at.from, at.to, err, lines, at.err, at.lines)
		}
	}
}

// P23.1: Range of a store that has no line.
func TestRangeOfNone(t *testing.T) {
	e := made(t)
	rowsOf(0).wants(t, "new", e)
	run(t, e, appends("a", "b"), seals, drops(2))
	rowsOf(2, "a", "b").wants(t, "all gone", e)
	if lines, err := e.Range(2, 2); err != api.OK || len(lines) > 0 {
		t.Error(err, lines)
	}
}

// P23.1: Count of no line, of some, behind a Drop, and behind one of all.
func TestCount(t *testing.T) {
	e := made(t)
	for k, at := range []struct {
		do   step
		want int
	}{{appends(), 0}, {appends("a"), 1}, {appends("b", "c"), 3}, {syncs, 3}, {appends("d"), 4}, {seals, 4}, {appends("e"), 5}, {seals, 5}, {appends("f"), 6}, {drops(4), 2}, {drops(4), 2}, {seals, 2}, {compacts, 2}, {appends("g"), 3}, {drops(6), 1}, {seals, 1}, {drops(100), 0}, {appends("h"), 1}} {
		run(t, e, at.do)
		if n := e.Count(); n != at.want {
			t.Errorf("behind step %d: %d, want %d", k, n, at.want)
		}
	}
}

// P23.1: ByField of each kind: of a text that one line has once, one twice, several, none.
func TestByField(t *testing.T) {
	texts := [api.Kinds][2]string{
		{"2026-11-19T23:31:00", "2026-11-19T23:31:01"}, {"127.0.0.1", "10.0.0.1"}, {"00:1a:22:33:44:ff", "00:1a:22:33:44:00"}, {"0xff", "0xFF"}, {"-3.5", "3.5"}, {`"a b"`, `"a"`}, {"up", "Up"}, {"  ", "\t"}, {"=", "\xff"},
	}
	for kind, text := range texts {
		a, b := text[0], text[1]
		apart := "="
		if kind == api.TokOther {
			apart = "x"
		}
		e := made(t, appends(a, a+apart+a, "zz", a+apart+b), seals, appends(b+apart+b, ""), syncs, appends(apart+a+apart))
		wantsNumbers(t, a, e.ByField(kind, a), 0, 1, 3, 6)
		wantsNumbers(t, b, e.ByField(kind, b), 3, 4)
		wantsNumbers(t, "zzz", e.ByField(kind, "zzz"))
		for other := range api.Kinds {
			if other != kind {
				wantsNumbers(t, fmt.Sprint(a, " as kind ", other), e.ByField(other, a))
			}
		}
		for _, other := range []int{-1, api.Kinds, math.MinInt, math.MaxInt, kind - api.Kinds, kind + api.Kinds, kind + 1<<32} {
			wantsNumbers(t, fmt.Sprint(a, " as kind ", other), e.ByField(other, a))
		}
		wantsNumbers(t, "the empty text", e.ByField(kind, ""))
		once := made(t, appends("zz", b, a+apart+b))
		wantsNumbers(t, a, once.ByField(kind, a), 2)
		twice := made(t, appends("zz", a+apart+a))
		wantsNumbers(t, a, twice.ByField(kind, a), 1)
	}
}

// P23.1: a token is told, not what stands in one, and whole, not in part.
func TestByFieldWhole(t *testing.T) {
	e := made(t, appends(`say "3 up" 33`, "up3 3.5", "3", "user 10.0.0.3", "a  b", "a b"))
	wantsNumbers(t, "number 3", e.ByField(api.TokNumber, "3"), 2)
	wantsNumbers(t, "word up", e.ByField(api.TokWord, "up"))
	wantsNumbers(t, "number 33", e.ByField(api.TokNumber, "33"), 0)
	wantsNumbers(t, "number 10.0", e.ByField(api.TokNumber, "10.0"))
	wantsNumbers(t, "one blank", e.ByField(api.TokBlank, " "), 0, 1, 3, 5)
	wantsNumbers(t, "two blanks", e.ByField(api.TokBlank, "  "), 4)
	wantsNumbers(t, "two tokens", e.ByField(api.TokWord, "a b"))
	wantsNumbers(t, "a word and a blank", e.ByField(api.TokWord, "a "))
	wantsNumbers(t, "a text of more than MaxLine bytes", e.ByField(api.TokWord, strings.Repeat("a", 1000)))
}

// P23.1: what is there alone is told: behind a Drop, of what was parted by bytes of all values, of the longest lines.
func TestByFieldBehind(t *testing.T) {
	long := strings.Repeat("x", api.MaxLine)
	e := made(t, appends("up 3", "\x00up\xff3\n", long), seals, appends("3", long), seals, appends("up"))
	wantsNumbers(t, "up", e.ByField(api.TokWord, "up"), 0, 1, 5)
	wantsNumbers(t, "long", e.ByField(api.TokWord, long), 2, 4)
	wantsNumbers(t, "ff", e.ByField(api.TokOther, "\xff"), 1)
	run(t, e, drops(3))
	wantsNumbers(t, "up", e.ByField(api.TokWord, "up"), 5)
	wantsNumbers(t, "long", e.ByField(api.TokWord, long), 4)
	wantsNumbers(t, "3", e.ByField(api.TokNumber, "3"), 3)
	wantsNumbers(t, "ff", e.ByField(api.TokOther, "\xff"))
}

// P23.1: ByTemplate of no number, of one, of several, in any order, of one twice, of a number that is none.
func TestByTemplate(t *testing.T) {
	e := made(t, appends("up 3", "down", "up 4"), seals, appends("", "up 5", "down"), syncs, appends("a b c", "up 6"))
	for _, at := range []struct{ ids, want []int }{
		{nil, nil}, {[]int{}, nil},
		{[]int{0}, []int{3}}, {[]int{1}, []int{0, 2, 4, 7}}, {[]int{2}, []int{1, 5}}, {[]int{3}, []int{6}},
		{[]int{1, 2}, []int{0, 1, 2, 4, 5, 7}}, {[]int{2, 1}, []int{0, 1, 2, 4, 5, 7}}, {[]int{3, 0}, []int{3, 6}}, {[]int{0, 1, 2, 3}, []int{0, 1, 2, 3, 4, 5, 6, 7}},
		{[]int{2, 2}, []int{1, 5}}, {[]int{2, 1, 2, 1, 1}, []int{0, 1, 2, 4, 5, 7}},
		{[]int{4}, nil}, {[]int{63}, nil}, {[]int{64}, nil}, {[]int{-1}, nil}, {[]int{math.MinInt}, nil}, {[]int{math.MaxInt}, nil}, {[]int{1 + 64, 1 - 64, 1 + 1<<32}, nil},
		{[]int{-1, 2, 99}, []int{1, 5}}, {[]int{math.MaxInt, math.MinInt, 3}, []int{6}},
	} {
		wantsNumbers(t, fmt.Sprint("ByTemplate ", at.ids), e.ByTemplate(at.ids...), at.want...)
	}
	run(t, e, drops(3))
	wantsNumbers(t, "behind a Drop", e.ByTemplate(1, 2), 4, 5, 7)
}

// P23.1: a line is of the template that it was Assigned to, though it would fit a wider one that came behind it.
func TestByTemplateStays(t *testing.T) {
	e := made(t, appends("a b c", "a b c", "a b d", "a b e", "a b c"))
	wantsNumbers(t, "1", e.ByTemplate(1), 0, 1)
	wantsNumbers(t, "2", e.ByTemplate(2), 2, 3, 4)
	if used := e.Used(); !maps.Equal(used, map[int]int{1: 2, 2: 3}) {
		t.Error(used)
	}
}

// wantsList holds all templates.
func wantsList(t *testing.T, e *query.Engine, want ...api.Template) {
	t.Helper()
	if got := e.List(); !slices.EqualFunc(got, want, part.Same) {
		t.Errorf("%v, want %v", got, want)
	}
}

// P23.1: List of a new store, behind lines, behind a Drop: no template goes.
func TestList(t *testing.T) {
	all := api.Template{{Any: true}}
	up := api.Template{{Text: "up"}, {Text: " "}, {Any: true}}
	down := api.Template{{Text: "down"}}
	e := made(t)
	wantsList(t, e, all)
	run(t, e, appends("up 3"))
	wantsList(t, e, all, up)
	run(t, e, appends("up 4", "down", ""), syncs)
	wantsList(t, e, all, up, down)
	run(t, e, seals, appends("up x"))
	wantsList(t, e, all, up, down)
	run(t, e, seals, drops(100))
	wantsList(t, e, all, up, down)
	// As many as may be.
	for n := range 200 {
		run(t, e, appends(strings.Repeat("a ", n%32+1)+fmt.Sprint("b", n)), seals, drops(math.MaxInt))
	}
	if got := len(e.List()); got != e.Templates() || got < 20 || got > api.MaxIDs {
		t.Error(got, e.Templates())
	}
}

// P23.1: Used of no line, of several, behind a Drop: only numbers to which a line is Assigned.
func TestUsed(t *testing.T) {
	e := made(t)
	for k, at := range []struct {
		do   step
		want map[int]int
	}{
		{appends(), nil}, {appends("up 3"), map[int]int{1: 1}}, {appends("up 4", "", "down"), map[int]int{0: 1, 1: 2, 2: 1}}, {syncs, map[int]int{0: 1, 1: 2, 2: 1}}, {seals, map[int]int{0: 1, 1: 2, 2: 1}},
		{appends("down", "down"), map[int]int{0: 1, 1: 2, 2: 3}}, {drops(4), map[int]int{2: 2}}, {appends("up 5"), map[int]int{1: 1, 2: 2}}, {seals, map[int]int{1: 1, 2: 2}}, {drops(7), nil}, {appends(""), map[int]int{0: 1}},
	} {
		run(t, e, at.do)
		if used := e.Used(); !maps.Equal(used, at.want) {
			t.Errorf("behind step %d: %v, want %v", k, used, at.want)
		}
	}
}

// P23.1: of each number just as many are Used as ByTemplate tells.
func TestUsedIsByTemplate(t *testing.T) {
	e, r := mixed(t)
	n := 0
	for id, many := range e.Used() {
		if got := e.ByTemplate(id); len(got) != many || many == 0 {
			t.Errorf("template %d: %d, want %v", id, many, got)
		}
		n += many
	}
	if n != r.end()-r.first || n != e.Count() {
		t.Error(n)
	}
}

// P23.2: with a Sync, a Seal, a Compact at each place, with each of them everywhere, and with none, all is told alike.
func TestWhereTheyStood(t *testing.T) {
	lines := []string{"up 3", "up 4", "down", "", "3 x", "up x", "a b c", "a b d", `say "x" 3`, "up 3"}
	r := rowsOf(0, lines...)
	between := [][]step{{syncs}, {seals}, {compacts}, {syncs, seals}, {seals, compacts}, {syncs, compacts}, {seals, syncs}}
	plain := made(t)
	for _, line := range lines {
		run(t, plain, appends(line))
	}
	r.wants(t, "none", plain)
	for k, steps := range between {
		always := made(t)
		for i, line := range lines {
			run(t, always, append([]step{appends(line)}, steps...)...)
			e := made(t, seals)
			for j, line := range lines {
				if i == j {
					run(t, e, steps...)
				}
				run(t, e, appends(line))
			}
			run(t, e, steps...)
			r.wants(t, fmt.Sprint("steps ", k, " ahead of line ", i), e)
		}
		r.wants(t, fmt.Sprint("steps ", k, " everywhere"), always)
	}
}

// P23.2: lines at once or one by one are the same, and so are they behind a Crash, if they were synced, and an Open.
func TestOpened(t *testing.T) {
	lines := []string{"up 3", "up 4", "down", "", "3 x", "up x"}
	e, d := fresh(t, 400)
	run(t, e, appends(lines[:2]...), seals, appends(lines[2:]...), syncs, compacts, appends("lost"))
	d.Crash()
	s, err := store.Open(d)
	if err != api.OK {
		t.Fatal(err)
	}
	rowsOf(0, lines...).wants(t, "opened", query.New(s))
	rowsOf(0, append(slices.Clone(lines), "lost")...).wants(t, "not opened", e)
}

// P23.1, P23.2: what is asked by chance behind steps by chance is what plain rows tell.
func TestByChance(t *testing.T) {
	pieces := []string{"up", "down", " ", "3", "-3", "0xff", "=", `"q"`, "10.0.0.1", "\xff", "x ", " 4"}
	for seed := range 30 {
		rnd := rand.New(rand.NewSource(int64(seed)))
		e, _ := fresh(t, 600)
		var lines []string
		for range 25 {
			switch rnd.Intn(7) {
			case 0, 1, 2:
				line := ""
				for range rnd.Intn(6) {
					line += pieces[rnd.Intn(len(pieces))]
				}
				run(t, e, appends(line))
				lines = append(lines, line)
			case 3:
				run(t, e, syncs)
			case 4:
				run(t, e, seals)
			case 5:
				run(t, e, compacts)
			default:
				run(t, e, drops(e.First()+rnd.Intn(5)))
			}
		}
		rowsOf(e.First(), lines...).wants(t, seed, e)
	}
}

// The chapter's way: what the Store tells is promoted, and what is done through the one is told by the other.
func TestPromoted(t *testing.T) {
	e, d := fresh(t, 100)
	s := e.Store
	if n, err := e.Append("up 3", "up 4"); n != 0 || err != api.OK {
		t.Error(n, err)
	}
	if n, err := s.Append("down"); n != 2 || err != api.OK {
		t.Error(n, err)
	}
	if e.End() != 3 || s.End() != 3 || e.Count() != 3 || e.Synced() != 0 || e.Sync() != api.OK || s.Synced() != 3 || e.Free() != s.Free() || e.Dead() {
		t.Error(e.End(), s.End(), e.Count(), e.Synced())
	}
	a, err := e.Assigned(1)
	if line, _ := e.Line(1); line != "up 4" || err != api.OK || a.ID != 1 {
		t.Error(line, err, a)
	}
	// A dead store tells what it told.
	run(t, e, appends("x"))
	d.Fuse(0)
	if err := e.Seal(); err != api.ErrDead || !e.Dead() {
		t.Error(err)
	}
	rowsOf(0, "up 3", "up 4", "down", "x").wants(t, "dead", e)
}

// wantsNothing holds that an engine has no store.
func wantsNothing(t *testing.T, what any, e *query.Engine) {
	t.Helper()
	for _, at := range [][2]int{{0, 0}, {0, 1}, {1, 0}, {-1, -1}, {math.MinInt, math.MaxInt}} {
		if lines, err := e.Range(at[0], at[1]); err != api.ErrArg || len(lines) > 0 {
			t.Errorf("%v: Range %v: error %d, %q", what, at, err, lines)
		}
	}
	if e.Count() != 0 || len(e.ByField(api.TokNumber, "3")) > 0 || len(e.ByField(-1, "")) > 0 || len(e.ByTemplate()) > 0 || len(e.ByTemplate(0, 1, -1)) > 0 || len(e.List()) > 0 || len(e.Used()) > 0 {
		t.Errorf("%v: it tells something", what)
	}
}

// P23.2: a nil Engine, and one of a nil Store.
func TestNil(t *testing.T) {
	wantsNothing(t, "nil", nil)
	wantsNothing(t, "of nil", query.New(nil))
	wantsNothing(t, "of nothing", &query.Engine{})
	wantsNothing(t, "of a lexer", &query.Engine{Lexer: theLexer()})
	if query.New(nil) == nil {
		t.Error("New of nil is none")
	}
}

// P23.2, chapter 13: a nil Lexer finds no token; all else is told.
func TestNoLexer(t *testing.T) {
	e, r := mixed(t)
	one := &query.Engine{Store: e.Store}
	for _, a := range r.asks() {
		wantsNumbers(t, a, one.ByField(a.Kind, a.Text))
	}
	lines, err := one.Range(2, 9)
	if err != api.OK || !slices.Equal(lines, r.lines[2:]) || one.Count() != 7 || !maps.Equal(one.Used(), e.Used()) {
		t.Error(err, lines, one.Count(), one.Used())
	}
	wantsNumbers(t, "ByTemplate", one.ByTemplate(0, 1), e.ByTemplate(0, 1)...)
	wantsList(t, one, e.List()...)
	if _, err := one.Range(3, 2); err != api.ErrArg {
		t.Error(err)
	}
	if _, err := one.Range(1, 2); err != api.ErrNone {
		t.Error(err)
	}
}

// W1: a Store that neither Format nor Open made.
func TestNoDisk(t *testing.T) {
	tellEngine(rowsOf(0, "up 3"), query.New(&store.Store{}))
}

// spoil writes over all that an engine answers, spare room too.
func spoil(e *query.Engine) {
	lines, _ := e.Range(e.First(), e.End())
	for k := range lines[:cap(lines)] {
		lines[:cap(lines)][k] = "spoilt"
	}
	for _, l := range [][]int{e.ByField(api.TokNumber, "3"), e.ByTemplate(0, 1, 2)} {
		for k := range l[:cap(l)] {
			l[:cap(l)][k] = 55
		}
	}
	all := e.List()
	for _, one := range all {
		for k := range one[:cap(one)] {
			one[:cap(one)][k] = api.Part{Text: "spoilt"}
		}
	}
	for k := range all[:cap(all)] {
		all[:cap(all)][k] = nil
	}
	used := e.Used()
	used[0], used[77] = 55, 55
	delete(used, 1)
}

// W6: what is answered is new memory.
func TestMemoryOfAnswers(t *testing.T) {
	e, r := mixed(t)
	spoil(e)
	r.wants(t, "answers written over", e)
	run(t, e, syncs)
	spoil(e)
	run(t, e, seals, compacts)
	spoil(e)
	r.wants(t, "answers written over again", e)
}

// W6: no two lists of one answer share any, nor two answers.
func TestMemoryOfTwo(t *testing.T) {
	e, _ := mixed(t)
	a, b := e.List(), e.List()
	want := fmt.Sprint(b)
	for k := range a {
		last := a[k][:cap(a[k])]
		for i := range last {
			last[i] = api.Part{Text: "spoilt"}
		}
		for j := range a {
			if j > k && fmt.Sprint(a[j]) != fmt.Sprint(b[j]) {
				t.Errorf("templates %d and %d are one", k, j)
			}
		}
	}
	if fmt.Sprint(b) != want {
		t.Error(b)
	}
}

// W7: what was answered stays what it is, whatever is called later.
func TestAnswersStay(t *testing.T) {
	e, r := mixed(t)
	lines, _ := e.Range(2, 9)
	field, like, all, used := e.ByField(api.TokNumber, "3"), e.ByTemplate(1), e.List(), e.Used()
	before := fmt.Sprint(lines, field, like, all, used)
	run(t, e, appends("up 3", "new 3", "a b c"), syncs, seals, compacts, compacts, drops(4), appends("up 3"))
	tellEngine(r, e)
	if fmt.Sprint(lines, field, like, all, used) != before {
		t.Error(lines, field, like, all, used)
	}
}

// W6: what is handed in is neither changed nor kept.
func TestMemoryOfNumbers(t *testing.T) {
	e, _ := mixed(t)
	ids := append(make([]int, 0, 8), 2, 1, 2, -1, 1)
	copy(ids[5:8], []int{7, 8, 9})
	want := e.ByTemplate(1, 2)
	got := e.ByTemplate(ids...)
	wantsNumbers(t, "numbers", ids[:8], 2, 1, 2, -1, 1, 7, 8, 9)
	for k := range ids[:8] {
		ids[:8][k] = 0
	}
	wantsNumbers(t, "answer", got, want...)
	wantsNumbers(t, "asked again", e.ByTemplate(1, 2), want...)
}

// W2: what is told depends on the store alone: engines in several goroutines tell the same, and two of one store.
func TestTogether(t *testing.T) {
	var all sync.WaitGroup
	for range 4 {
		all.Go(func() {
			e, r := mixed(t)
			r.wants(t, "together", e)
			r.wants(t, "another engine", query.New(e.Store))
		})
	}
	all.Wait()
}

package whole_test

import (
	"fmt"
	"math"
	"math/rand"
	"slices"
	"strings"
	"testing"

	"winnower/api"
	"winnower/tool"
	"winnower/world"
)

// someLine is a line by chance: some are like others, some hold bytes of any values.
func someLine(r *rand.Rand) string {
	n := r.Intn(40)
	switch r.Intn(12) {
	case 0, 1, 2:
		return fmt.Sprint("up ", n)
	case 3:
		return fmt.Sprint("user u", n%4, " did 0x", n, " from 10.0.0.", n)
	case 4:
		return fmt.Sprint("down now ", n)
	case 5:
		return fmt.Sprintf("%q -> %d.%d", fmt.Sprint("a ", n), n, n)
	case 6:
		return ""
	case 7:
		b := make([]byte, r.Intn(20))
		r.Read(b)
		return string(b)
	case 8:
		return strings.Repeat("x", 240+r.Intn(17))
	case 9:
		return fmt.Sprint("2026-11-20T06:46:", 10+n, " [", n, "] a b ", n)
	}
	return fmt.Sprint("a b ", string(rune('c'+n%3)), " d")
}

// someStep is a step by chance, of numbers near those that there are; picks are given to no Crash.
func someStep(r *rand.Rand, m model) world.Step {
	if !m.up && r.Intn(3) > 0 {
		return opens
	}
	if m.dead && r.Intn(2) == 0 {
		return crashes()
	}
	switch r.Intn(22) {
	case 0, 1, 2, 3, 4, 5, 6:
		var l []string
		for range r.Intn(8) {
			l = append(l, someLine(r))
		}
		if r.Intn(20) == 0 {
			l = append(l, strings.Repeat("x", 256+r.Intn(2)))
		}
		if r.Intn(20) == 0 {
			l = append(l, make([]string, 50)...)
		}
		return appends(l...)
	case 7, 8, 9, 10:
		return syncs
	case 11, 12, 13:
		return seals
	case 14, 15, 16:
		return compacts
	case 17:
		return drops(m.first + r.Intn(30) - 5)
	case 18:
		return fuses(r.Intn(90) - 10)
	case 19:
		return crashes()
	case 20:
		return world.Step{Kind: r.Intn(14) - 3, N: r.Intn(5), Lines: []string{"x"}}
	}
	return opens
}

// P0.1: steps by chance, on small disks and on great ones: each answer, all lines and all else that is told are those of a plain row of lines; behind a step that errs nothing has changed.
func TestSequence(t *testing.T) {
	for seed := range 40 {
		t.Run(fmt.Sprint(seed), func(t *testing.T) {
			t.Parallel()
			r := rand.New(rand.NewSource(int64(seed)))
			p := fresh(t, slots+[]int{2, 6, 15, 40, 100, 300, 1000, 4000}[seed%8])
			for range 70 {
				p.do(someStep(r, p.m))
			}
		})
	}
}

// P0.1: many lines, sealed, compacted, dropped: the row is the same, whatever is done to it.
func TestLongSequence(t *testing.T) {
	p := fresh(t, 3000)
	var all []string
	most := 0
	for round := range 40 {
		var l []string
		for n := range 1 + round*7%60 {
			l = append(l, fmt.Sprint([]string{"up ", "down ", "a b ", "-> "}[n%4], round, " ", n*n))
		}
		p.run(appends(l...))
		all = append(all, l...)
		p.run([]world.Step{seals, syncs, compacts}[round%3], compacts)
		if round%3 == 2 || p.m.end()-p.m.sealed() > 10 {
			p.run(seals)
		}
		if len(p.m.lines) > 700 {
			p.run(drops(p.m.spans[0].First+p.m.spans[0].Count), appends("up 3"), seals)
			all = append(all, "up 3")
		}
		if got := p.w.Lines(); !slices.Equal(got, all[p.m.first:]) {
			t.Fatalf("round %d: %d lines, want %d", round, len(got), len(all)-p.m.first)
		}
		most = max(most, len(p.m.lines))
	}
	if p.m.first == 0 || most < api.MaxSeg {
		t.Errorf("%d lines at most, the last ones from %d on, are too few to tell anything", most, p.m.first)
	}
}

// P0.1: segments are one up to as many lines as one may have.
func TestMostLines(t *testing.T) {
	p := fresh(t, 500)
	for range api.MaxSeg / api.MaxMem {
		p.run(appends(slices.Repeat([]string{"up 3"}, api.MaxMem)...), seals, compacts)
	}
	if got := p.w.Engine().Spans(); len(got) != 1 || got[0].Count != api.MaxSeg {
		t.Error(got)
	}
	p.run(appends("down"), seals, compacts, appends("up 4"), compacts, seals, compacts, compacts)
	if got := p.w.Engine().Spans(); len(got) != 2 || got[1].Count != 2 || p.w.Engine().Count() != api.MaxSeg+2 {
		t.Error(got)
	}
	p.run(crashes(), opens, drops(api.MaxSeg), drops(api.MaxSeg+2))
}

// P0.1: each error that a step may have, in each order that a step names them: nothing has changed behind it.
func TestErrors(t *testing.T) {
	long := strings.Repeat("x", api.MaxLine+1)
	wants := func(p *pair, s world.Step, e api.Errno) {
		t.Helper()
		if a := p.do(s); a.e != e {
			t.Errorf("%.80v: error %d, want %d", s, a.e, e)
		}
	}
	p := made(t, 200, appends("up 3", "up 4"), seals, appends("down"), syncs, appends("x 7"))
	for _, s := range []world.Step{appends(long), appends("a", long), appends(append(make([]string, 64), long)...)} {
		wants(p, s, api.ErrLong)
	}
	wants(p, appends(make([]string, 63)...), api.ErrLimit)
	for _, kind := range []int{0, -1, 9, math.MinInt, math.MaxInt} {
		wants(p, world.Step{Kind: kind, Lines: []string{"x"}}, api.ErrArg)
	}
	wants(p, opens, api.ErrArg)
	p.run(fuses(0))
	for _, s := range []world.Step{syncs, appends("y"), appends(long), seals, compacts, drops(2), drops(0)} {
		wants(p, s, api.ErrDead)
	}
	wants(p, opens, api.ErrArg)
	p.run(crashes())
	for _, s := range []world.Step{appends("y"), appends(long), syncs, seals, compacts, drops(2), {Kind: 77}} {
		wants(p, s, api.ErrArg)
	}
	p.run(opens, seals)
	// Small disks: what has no room changes nothing, and all else goes on.
	for extra := 1; extra < 30; extra++ {
		p := fresh(t, slots+extra)
		full := 0
		for n := range 12 {
			for _, s := range []world.Step{appends(fmt.Sprint("line ", n*n*n, " of ", n)), syncs, seals, compacts} {
				if a := p.do(s); a.e == api.ErrFull {
					full++
				}
			}
		}
		if extra < 6 && full == 0 {
			t.Error("nothing was full")
		}
		p.do(drops(3))
		p.do(drops(100))
		p.run(crashes(), opens)
	}
}

// quoted is Quote in plain words.
func quoted(s string) string {
	l := ""
	for i := range len(s) {
		if ' ' <= s[i] && s[i] <= '~' && s[i] != '\\' {
			l += s[i : i+1]
		} else {
			l += fmt.Sprintf(`\%02x`, s[i])
		}
	}
	return l
}

// script is a step as a line of a script, and what that answers; false, if no line says it.
func script(s world.Step, a answer) (line, want string, ok bool) {
	word := map[int]string{world.StepAppend: "add", world.StepSync: "sync", world.StepSeal: "seal", world.StepCompact: "compact", world.StepDrop: "drop", world.StepFuse: "fuse", world.StepCrash: "crash", world.StepOpen: "open"}[s.Kind]
	want = "ok"
	switch s.Kind {
	case world.StepAppend:
		if len(s.Lines) != 1 || strings.Contains(s.Lines[0], "\n") {
			return "", "", false
		}
		word += " " + s.Lines[0]
		want = fmt.Sprint(a.n)
	case world.StepCompact:
		want = []string{"no", "yes"}[a.n]
	case world.StepDrop, world.StepFuse:
		if s.N < 0 {
			return "", "", false
		}
		word += fmt.Sprint(" ", s.N)
		if s.Kind == world.StepDrop {
			want = fmt.Sprint(a.n)
		}
	}
	if a.e != api.OK {
		want = fmt.Sprint("error ", int(a.e))
	}
	return word, want, word != ""
}

// at is the numbers of lines as a script tells them.
func at(l []int) string {
	s := "at"
	for _, n := range l {
		s += fmt.Sprint(" ", n)
	}
	return s
}

// questions is lines of a script that ask for all that there is, and what they answer.
func (m model) questions() (ask, want []string) {
	add := func(a, w string) { ask, want = append(ask, a), append(want, w) }
	if !m.up {
		add("get 0", "error 1")
		add("count", "0")
		add("like 1", "at")
		return ask, want
	}
	add("count", fmt.Sprint(len(m.lines)))
	for _, i := range []int{m.first - 1, m.end(), m.end() + 1} {
		if i >= 0 {
			add(fmt.Sprint("get ", i), "error 5")
		}
	}
	for k, line := range m.lines {
		add(fmt.Sprint("get ", m.first+k), quoted(line))
	}
	add("field number 3", at(m.byField(api.TokNumber, "3")))
	add("field word up", at(m.byField(api.TokWord, "up")))
	for id := range m.tree.templates {
		add(fmt.Sprint("like ", id), at(m.byTemplate(id)))
	}
	return ask, want
}

// P0.1, P0.6: scripts of all steps by chance: each line answers what a plain row of lines tells.
func TestScripts(t *testing.T) {
	for seed := range 30 {
		t.Run(fmt.Sprint(seed), func(t *testing.T) {
			t.Parallel()
			r := rand.New(rand.NewSource(int64(1000 + seed)))
			m := begin(512)
			var text, want []string
			for k := range 120 {
				s := someStep(r, m)
				if s.Kind == world.StepAppend {
					s = appends(someLine(r))
				}
				a := m.step(s)
				line, told, ok := script(s, a)
				if !ok {
					continue
				}
				m = a.after
				text, want = append(text, line), append(want, told)
				if k%15 == 14 {
					ask, told := m.questions()
					text, want = append(text, ask...), append(want, told...)
				}
			}
			got := strings.Split(strings.TrimSuffix(tool.Run(strings.Join(text, "\n")), "\n"), "\n")
			for k := range max(len(got), len(want)) {
				if k >= len(got) || k >= len(want) || got[k] != want[k] {
					t.Fatalf("line %d, %q: %q, want %q", k, text[k], got[min(k, len(got)-1)], want[min(k, len(want)-1)])
				}
			}
		})
	}
}

package tool_test

import (
	"bytes"
	"fmt"
	"regexp"
	"strconv"
	"strings"
	"testing"

	"winnower/api"
	"winnower/dfa"
	"winnower/glush"
	"winnower/lang"
	"winnower/lexer"
	"winnower/mini"
	"winnower/regex"
	"winnower/rules"
	"winnower/tool"
	"winnower/world"
)

// lines is lines, each ended by 0A.
func lines(l ...string) string {
	var b strings.Builder
	for _, s := range l {
		b.WriteString(s + "\n")
	}
	return b.String()
}

// answers holds what a script answers.
func answers(t *testing.T, script string, want ...string) {
	t.Helper()
	if got := tool.Run(script); got != lines(want...) {
		t.Errorf("Run(%.300q): %.1000q, want %.1000q", script, got, lines(want...))
	}
}

// behind holds what a script answers behind what one ahead of it answers.
func behind(t *testing.T, ahead, script string, want ...string) {
	t.Helper()
	first, all := tool.Run(ahead), tool.Run(ahead+script)
	if !strings.HasPrefix(all, first) {
		t.Errorf("Run(%.300q) does not begin with %.300q", ahead+script, first)
		return
	}
	if got := all[len(first):]; got != lines(want...) {
		t.Errorf("behind %.300q: %.300q answers %.1000q, want %.1000q", ahead, script, got, lines(want...))
	}
}

// each holds that each of many lines, behind a script, answers the same.
func each(t *testing.T, ahead, want string, l ...string) {
	t.Helper()
	for _, s := range l {
		behind(t, ahead, s+"\n", want)
	}
}

// quoted is Quote in plain words.
func quoted(s string) string {
	var b bytes.Buffer
	for i := range len(s) {
		if ' ' <= s[i] && s[i] <= '~' && s[i] != 0x5c {
			b.WriteByte(s[i])
		} else {
			fmt.Fprintf(&b, `\%02x`, s[i])
		}
	}
	return b.String()
}

// model answers a script in plain words.
type model struct {
	w   *world.World
	out strings.Builder
}

func modelRun(text string) string {
	w, e := world.New(512)
	if e != api.OK {
		panic(e)
	}
	m := &model{w: w}
	for _, line := range strings.Split(text, "\n") {
		if line != "" && !strings.HasPrefix(line, "#") {
			m.line(line)
		}
	}
	return m.out.String()
}

func (m *model) tell(format string, what ...any) { fmt.Fprintf(&m.out, format+"\n", what...) }

func (m *model) err(e api.Errno) bool {
	if e != api.OK {
		m.tell("error %d", int(e))
	}
	return e != api.OK
}

// forms is each line that is none of `?`, and how it is answered, by what it has in its places.
var forms = []struct {
	form *regexp.Regexp
	do   func(m *model, at []string)
}{
	{regexp.MustCompile(`(?s)^add(?: (.*))?$`), func(m *model, at []string) {
		m.step(world.Step{Kind: world.StepAppend, Lines: at}, "%d")
	}},
	{regexp.MustCompile(`^sync$`), func(m *model, at []string) { m.step(world.Step{Kind: world.StepSync}, "ok") }},
	{regexp.MustCompile(`^seal$`), func(m *model, at []string) { m.step(world.Step{Kind: world.StepSeal}, "ok") }},
	{regexp.MustCompile(`^open$`), func(m *model, at []string) { m.step(world.Step{Kind: world.StepOpen}, "ok") }},
	{regexp.MustCompile(`^compact$`), func(m *model, at []string) {
		if n, e := m.w.Do(world.Step{Kind: world.StepCompact}); !m.err(e) {
			m.tell([]string{"no", "yes"}[n])
		}
	}},
	{regexp.MustCompile(`^drop ([0-9]{1,9})$`), func(m *model, at []string) {
		m.step(world.Step{Kind: world.StepDrop, N: atoi(at[0])}, "%d")
	}},
	{regexp.MustCompile(`^fuse ([0-9]{1,9})$`), func(m *model, at []string) { m.step(world.Step{Kind: world.StepFuse, N: atoi(at[0])}, "ok") }},
	{regexp.MustCompile(`^crash((?: [0-9]{1,9})*)$`), func(m *model, at []string) {
		var picks []int
		for _, s := range strings.Fields(at[0]) {
			picks = append(picks, atoi(s))
		}
		m.step(world.Step{Kind: world.StepCrash, Picks: picks}, "ok")
	}},
	{regexp.MustCompile(`^get ([0-9]{1,9})$`), func(m *model, at []string) {
		if !m.w.Up() {
			m.tell("error 1")
		} else if line, e := m.w.Engine().Line(atoi(at[0])); !m.err(e) {
			m.tell("%s", quoted(line))
		}
	}},
	{regexp.MustCompile(`^count$`), func(m *model, at []string) { m.tell("%d", len(m.w.Lines())) }},
	{regexp.MustCompile(`(?s)^field (stamp|ip|mac|hex|number|quoted|word|blank|other)(?: (.*))?$`), func(m *model, at []string) {
		kind, _ := rules.Kind(at[0])
		m.at(m.w.Engine().ByField(kind, at[1]))
	}},
	{regexp.MustCompile(`^like ([0-9]{1,9})$`), func(m *model, at []string) { m.at(m.w.Engine().ByTemplate(atoi(at[0]))) }},
	{regexp.MustCompile(`^templates$`), func(m *model, at []string) {
		for id, t := range m.w.Engine().List() {
			s := strconv.Itoa(id)
			for _, p := range t {
				s += map[bool]string{true: " *", false: " =" + quoted(p.Text)}[p.Any]
			}
			m.tell("%s", s)
		}
	}},
	{regexp.MustCompile(`(?s)^tokens(?: (.*))?$`), func(m *model, at []string) {
		l, _ := lexer.New().Lex(at[0])
		for _, t := range l {
			m.tell("%s %s", rules.Name(t.Kind), quoted(t.Text))
		}
	}},
	{regexp.MustCompile(`(?s)^states(?: (.*))?$`), func(m *model, at []string) {
		r, _, e := regex.Parse(at[0])
		if m.err(e) {
			return
		}
		g, e := glush.Of(r)
		if m.err(e) {
			return
		}
		d, e := dfa.Build(g)
		if m.err(e) {
			return
		}
		d, _ = mini.Minimal(d)
		m.tell("%d", len(d.Ends))
	}},
	{regexp.MustCompile(`(?s)^match(?: ([^ ]*)(?: (.*))?)?$`), func(m *model, at []string) {
		if r, _, e := regex.Parse(at[0]); !m.err(e) {
			m.tell(map[bool]string{true: "yes", false: "no"}[lang.Match(r, at[1])])
		}
	}},
}

func atoi(s string) int {
	n, err := strconv.Atoi(s)
	if err != nil {
		panic(err)
	}
	return n
}

// step does a step, and tells its number, or a word without one.
func (m *model) step(s world.Step, format string) {
	n, e := m.w.Do(s)
	if m.err(e) {
		return
	}
	if format == "%d" {
		m.tell("%d", n)
	} else {
		m.tell("%s", format)
	}
}

func (m *model) at(l []int) {
	s := "at"
	for _, n := range l {
		s += fmt.Sprint(" ", n)
	}
	m.tell("%s", s)
}

func (m *model) line(line string) {
	for _, f := range forms {
		if at := f.form.FindStringSubmatch(line); at != nil {
			f.do(m, at[1:])
			return
		}
	}
	m.tell("?")
}

package tool_test

import (
	"fmt"
	"math/rand"
	"strings"
	"sync"
	"testing"

	"winnower/tool"
)

// The chapter's example: P25.1.
func TestExample(t *testing.T) {
	answers(t, "add up 3\ntemplates\n", "0", "0 *", "1 =up =  *")
}

// P25.1: Quote of nothing, and of each byte, alone and among others.
func TestQuote(t *testing.T) {
	for s, want := range map[string]string{
		"": "", "\x1f": `\1f`, " ": " ", "\\": `\5c`, "~": "~", "\x7f": `\7f`, "\xff": `\ff`, "\x00": `\00`, "\n": `\0a`, "\x80": `\80`, "é": `\c3\a9`, `a\0a`: `a\5c0a`, "#=*": "#=*", "\"": "\"", "up 3": "up 3", "\t\r": `\09\0d`,
	} {
		if got := tool.Quote(s); got != want {
			t.Errorf("Quote(%q): %s, want %s", s, got, want)
		}
	}
	all := ""
	for c := range 256 {
		s := string([]byte{byte(c)})
		all += s + "x"
		if got := tool.Quote(s); got != quoted(s) || tool.Quote("a"+s+s) != "a"+got+got {
			t.Errorf("Quote(%q): %s", s, got)
		}
	}
	if got := tool.Quote(all); got != quoted(all) {
		t.Error(got)
	}
}

// P25.1: nothing, lines without a byte, remarks, a last line with its 0A and without.
func TestLines(t *testing.T) {
	for _, s := range []string{"", "\n", "\n\n\n", "#", "#\n", "# add x\n\n#add y", "#count\n#"} {
		answers(t, s)
	}
	answers(t, "count", "0")
	answers(t, "count\n", "0")
	answers(t, "\ncount\n\n#\ncount", "0", "0")
	answers(t, "add a\nadd b", "0", "1")
	answers(t, "add #\n#add x\nget 0", "0", "#")
	// A line is ended by 0A alone, and begins at once.
	each(t, "", "?", " ", "  ", " count", "\tcount", " # a remark", "\r", "count\r", "\x00", "\xff", "count\x00")
}

// P25.1: what is none of the words.
func TestUnknown(t *testing.T) {
	each(t, "add a\n", "?", "ADD x", "Add x", "Sync", "COUNT", "adds x", "ad x", "a", "x", "help", "?", "ok", "add\tx", "get\t0", "append x", "field\tword a", "Templates", "sync;", "-", "0", "get0", "match\ta", "Open", "tokens\tup", "STATES a")
}

// P25.1: words that stand alone: with a blank, or with words behind, they are none.
func TestAlone(t *testing.T) {
	for word, want := range map[string]string{"sync": "ok", "seal": "ok", "compact": "no", "count": "1", "templates": "0 *", "open": "error 1"} {
		each(t, "add \n", want, word)
		each(t, "add \n", "?", word+" ", word+"  ", word+" now", word+" 1", word+" "+word)
	}
}

// P25.1: add: all behind the blank; nothing without one; the line's number, or an error.
func TestAdd(t *testing.T) {
	answers(t, "add up 3\nadd  two  blanks  \nadd\nadd \nadd  \nadd #\nadd a\tb\r\ncount\nget 0\nget 1\nget 2\nget 3\nget 4\nget 5\nget 6\n",
		"0", "1", "2", "3", "4", "5", "6", "7", "up 3", " two  blanks  ", "", "", " ", "#", `a\09b\0d`)
	long := strings.Repeat("x", 256)
	answers(t, "add "+long+"\nadd "+long+"x\nadd "+long+long+"\nadd y\nget 0\nget 1\n", "0", "error 3", "error 3", "1", long, "y")
	script, want := "", []string(nil)
	for n := range 64 {
		script += "add x\n"
		want = append(want, fmt.Sprint(n))
	}
	answers(t, script+"add y\nseal\nadd y\n", append(want, "error 8", "ok", "64")...)
	every := ""
	for c := range 256 {
		if c != '\n' {
			every += string([]byte{byte(c)})
		}
	}
	answers(t, "add "+every+"\nget 0", "0", quoted(every))
}

// P25.1: numbers have 1 to 9 digits, and nothing else.
func TestNumbers(t *testing.T) {
	ahead := "add a\nadd b\nseal\nadd up 3\n"
	for word, want := range map[string]map[string]string{
		"drop": {"0": "0", "1": "0", "2": "2", "3": "2", "000000002": "2", "999999999": "2"},
		"fuse": {"0": "ok", "1": "ok", "000000000": "ok", "999999999": "ok"},
		"get":  {"0": "a", "2": "up 3", "000000001": "b", "3": "error 5", "999999999": "error 5"},
		"like": {"0": "at", "1": "at 0", "2": "at 1", "000000003": "at 2", "4": "at", "64": "at", "999999999": "at"},
	} {
		for digits, told := range want {
			each(t, ahead, told, word+" "+digits)
		}
		for _, none := range []string{"", " ", "  ", " 0000000001", " 1000000000", " 99999999999999999999", " +1", " -1", " 1 ", "  1", " 1 2", " 1,", " x", " 1x", " 0x1", " 1.0", " ١", " 1\t", " \t1", " 1\r"} {
			each(t, ahead, "?", word+none)
		}
	}
}

// P25.1: sync, seal, compact, drop, with something to do and with nothing.
func TestChanges(t *testing.T) {
	answers(t, "sync\nseal\ncompact\ndrop 9\nadd a\nsync\nsync\ncompact\nadd b\nseal\nseal\ncompact\nadd c\nseal\ncompact\ncompact\ncount\nadd d\nseal\nadd e\ndrop 2\ndrop 3\ndrop 3\nget 2\nget 3\ncount\ndrop 100\ncount\nadd f\nget 4\nget 5\n",
		"ok", "ok", "no", "0", "0", "ok", "ok", "no", "1", "ok", "ok", "no", "2", "ok", "yes", "no", "3", "3", "ok", "4", "0", "3", "0", "error 5", "d", "2", "1", "1", "5", "e", "f")
}

// P25.1: get of each line, and of one that is none.
func TestGet(t *testing.T) {
	behind(t, "add up 3\nadd \\\nadd \xff\nseal\nadd  \nadd ~\n", "get 0\nget 1\nget 2\nget 3\nget 4\nget 5\nget 6\n", "up 3", `\5c`, `\ff`, " ", "~", "error 5", "error 5")
	behind(t, "add a\nseal\nadd b\ndrop 1\n", "get 0\nget 1\nget 2\n", "error 5", "b", "error 5")
	answers(t, "get 0", "error 5")
}

// P25.1: crash with no pick, with one, with several, each taken to its sector in order; and what is no pick.
func TestCrash(t *testing.T) {
	// The whole of a commit waits for its last Flush: the sector of the batch was flushed, the sixteen of a slot are picked.
	ahead := "add a\nsync\nadd b\nfuse 18\nsync\n"
	all := strings.Repeat(" 1", 16)
	for picks, want := range map[string]string{"": "1", " 0": "1", " 1": "1", " 1 0 1 2 3": "1", all: "2", " 3" + all[2:]: "2", " 2" + all[2:]: "1", all + " 1 1 1": "2", all[:30]: "1", " 000000001 999999999" + all[4:]: "2"} {
		behind(t, ahead, "crash"+picks+"\nopen\ncount\n", "ok", "ok", want)
	}
	each(t, ahead, "?", "crash ", "crash  ", "crash 1 ", "crash  1", "crash 1  2", "crash x", "crash 1 x", "crash -1", "crash 1 -1", "crash 0000000001", "crash 1,2", "crash 1\t2")
	// What is none of these crashed nothing.
	behind(t, ahead, "crash \ncrash 1  2\ncount\nopen\n", "?", "?", "2", "error 1")
}

// P25.1: open when one is up, and when none is.
func TestOpen(t *testing.T) {
	answers(t, "open\nadd a\nsync\nadd b\nopen\ncount\ncrash\nopen\nopen\ncount\nadd c\nget 1\n", "error 1", "0", "ok", "1", "error 1", "2", "ok", "ok", "error 1", "1", "1", "c")
}

// P25.1: each of the words when none is up.
func TestDown(t *testing.T) {
	ahead := "add up 3\nseal\nadd b\nsync\ncrash\n"
	each(t, ahead, "error 1", "add x", "add", "add ", "add "+strings.Repeat("x", 300), "sync", "seal", "compact", "drop 0", "drop 1", "get 0", "get 1", "get 9")
	each(t, ahead, "ok", "crash", "crash 1 2", "fuse 0", "fuse 9", "open")
	each(t, ahead, "0", "count")
	each(t, ahead, "at", "field number 3", "field word up", "field word", "like 0", "like 1")
	behind(t, ahead, "templates\n")
	behind(t, ahead, "tokens up\n", "word up")
	each(t, ahead, "4", "states (a|b)*abb")
	each(t, ahead, "yes", "match a* aa")
	each(t, ahead, "?", "sync ", "get", "drop x", "field none x", "like", "x", "open ", "crash x")
	behind(t, ahead, "sync\nopen\nget 0\nget 1\ncount\n", "error 1", "ok", "up 3", "b", "2")
}

// P25.1: a fuse, and then each of those that change.
func TestFuse(t *testing.T) {
	ahead := "add a\nseal\nadd b\nseal\nadd c\nfuse 0\n"
	for _, line := range []string{"sync", "seal", "compact", "drop 1"} {
		behind(t, ahead, line+"\nadd d\nsync\nseal\ncompact\ndrop 0\nopen\ncount\nget 2\ncrash\nopen\ncount\n", "error 6", "error 6", "error 6", "error 6", "error 6", "error 6", "error 1", "3", "c", "ok", "ok", "2")
	}
	behind(t, ahead, "add d\nsync\ncrash\nopen\nadd x\nsync\n", "3", "error 6", "ok", "ok", "2", "ok")
	// So many writes and flushes are done: those of one sync are nineteen.
	behind(t, "add a\nfuse 19\n", "sync\nadd b\nsync\n", "ok", "1", "error 6")
	behind(t, "add a\nfuse 18\n", "sync\n", "error 6")
	behind(t, "add a\nfuse 0\nfuse 999999999\n", "sync\n", "ok")
}

// P25.1: field with each name of a kind, with one that is none, with no text, with a text of blanks.
func TestField(t *testing.T) {
	ahead := "add 2026-11-19T23:31:00 10.0.0.1 00:1a:22:33:44:ff 0xff -3.5 \"a b\" up   =\nadd up up 7\nseal\nadd 7\nsync\nadd up\n"
	for line, want := range map[string]string{
		"stamp 2026-11-19T23:31:00": "at 0", "ip 10.0.0.1": "at 0", "mac 00:1a:22:33:44:ff": "at 0", "hex 0xff": "at 0", "number -3.5": "at 0", "number 7": "at 1 2", `quoted "a b"`: "at 0", "word up": "at 0 1 3", "blank    ": "at 0", "blank  ": "at 0 1", "other =": "at 0",
		"stamp": "at", "stamp ": "at", "word": "at", "word ": "at", "blank": "at", "blank ": "at", "other": "at", "other ": "at", "blank     ": "at", "word  up": "at", "word up ": "at", "word u": "at", "number 3.5": "at", "word 7": "at", "number  7": "at",
	} {
		each(t, ahead, want, "field "+line)
	}
	each(t, ahead, "?", "field", "field ", "field  ", "field  word up", "field none up", "field Word up", "field 6 up", "field words", "field wor up", "field word\tup", "field -1", "field *")
	behind(t, ahead+"drop 2\n", "field word up\nfield number 7\n", "at 3", "at 2")
	answers(t, "field word up", "at")
}

// P25.1: like of a number with lines, and with none.
func TestLike(t *testing.T) {
	behind(t, "add up 3\nadd down\nseal\nadd up 4\nadd\n", "like 0\nlike 1\nlike 2\nlike 3\ndrop 2\nlike 1\nlike 2\n", "at 3", "at 0 2", "at 1", "at", "2", "at 2", "at")
	answers(t, "like 0", "at")
}

// P25.1: templates of none, of several, with Any and with bytes that are quoted.
func TestTemplates(t *testing.T) {
	answers(t, "templates", "0 *")
	behind(t, "add up 3\nadd up x\nadd \\\xff\nadd = * 10.0.0.1\nadd a b c\nadd a b d\n", "templates\nseal\ndrop 9\ntemplates\n",
		"0 *", `1 =up =  *`, `2 =\5c =\ff`, `3 == =  =* =  *`, `4 =a =  =b =  =c`, `5 =a =  =b =  *`, "ok", "6",
		"0 *", `1 =up =  *`, `2 =\5c =\ff`, `3 == =  =* =  *`, `4 =a =  =b =  =c`, `5 =a =  =b =  *`)
}

// P25.1: tokens of nothing, of a line of each kind, of the longest line.
func TestTokens(t *testing.T) {
	answers(t, "tokens")
	answers(t, "tokens ")
	answers(t, "tokens  ", "blank  ")
	answers(t, "tokens 2026-11-19T23:31:00 10.0.0.1 00:1a:22:33:44:ff 0xff -3.5\t\"a\\\" b\"up=\\\xff\n",
		"stamp 2026-11-19T23:31:00", "blank  ", "ip 10.0.0.1", "blank  ", "mac 00:1a:22:33:44:ff", "blank  ", "hex 0xff", "blank  ", "number -3.5", `blank \09`, `quoted "a\5c" b"`, "word up", "other =", `other \5c`, `other \ff`)
	answers(t, "tokens up 3.5s\ncount\n", "word up", "blank  ", "number 3.5", "word s", "0")
	long := strings.Repeat("x", 256)
	answers(t, "tokens "+long, "word "+long)
	if got := tool.Run("tokens " + long + "x\ncount\n"); strings.Contains(got, "x") || !strings.HasSuffix(got, "0\n") {
		t.Error(got)
	}
}

// P25.1: states of expressions, of one that may not be, of one with too many places, of one with too many states, of nothing.
func TestStates(t *testing.T) {
	for re, want := range map[string]string{
		"": "1", " ": "1", " (a|b)*abb": "4", " a*b": "2", " a": "2", " abc": "4", " .*": "1", "  ": "2", " a b": "4", " a{32}": "33", " a{32}a{32}": "65", " a|b": "2", " (a|b)*a(a|b){5}": "64",
		" (": "error 2", " a**": "error 2", " a)": "error 2", " [b-a]": "error 2", ` \q`: "error 2", " a{33}": "error 2", " [^": "error 2",
		" (a{32}){32}": "error 3", " " + strings.Repeat("a", 1025): "error 3", " " + strings.Repeat("(", 1025): "error 3",
		" a{32}a{32}a": "error 7", " (a|b)*a(a|b){7}": "error 7", " " + strings.Repeat("a", 64): "65", " " + strings.Repeat("a", 65): "error 7",
	} {
		each(t, "add x\n", want, "states"+re)
	}
}

// P25.1: match with and without each of its words.
func TestMatch(t *testing.T) {
	for rest, want := range map[string]string{
		"": "yes", " ": "yes", "  ": "yes", "  a": "no", " a": "no", " a*": "yes", " a ": "no", " a* ": "yes", " a a": "yes", " a  a": "no", ` \x20a  a`: "yes", " a a ": "no", " a. a ": "yes", " a*b aab": "yes", " a*b aabb": "no", " a. a\xff": "yes", " .* any  text at all": "yes", " [0-9]+ 12": "yes", " (a|b)*a(a|b){7} babbbbbb": "no", " (a|b)*a(a|b){7} abbbbbbb": "yes", " a{32}a{32}a a": "no",
		" ( a": "error 2", " (": "error 2", " a** x": "error 2", " [ ]": "error 2", " (a{32}){32} a": "error 3", " " + strings.Repeat("a", 1025) + " a": "error 3",
	} {
		each(t, "add x\n", want, "match"+rest)
	}
}

// P25.1: the disk has 512 sectors: two segments fill it but for a few, each batch behind them takes one.
func TestRoom(t *testing.T) {
	r := rand.New(rand.NewSource(25))
	filled := func(lines int) string {
		script := ""
		for range lines {
			b := make([]byte, 254)
			for i := range b {
				b[i] = byte('a' + r.Intn(26))
			}
			script += "add \"" + string(b) + "\"\n"
		}
		return script + "seal\n"
	}
	ahead := filled(64) + filled(52)
	script := ahead + strings.Repeat("add a\nsync\n", 20)
	got := tool.Run(script)
	if want := modelRun(script); got != want {
		t.Errorf("%q, want %q", got, want)
	}
	got = strings.TrimPrefix(got, tool.Run(ahead))
	if !strings.Contains(got, "ok\n") || !strings.HasSuffix(got, "error 4\n") {
		t.Error(got)
	}
}

// whole is a script that has each of the words.
const whole = `# a script
add up 3
add up 4
add

sync
field number 3
like 1
templates
tokens a b
seal
seal
get 1
compact
add down
seal
compact
states a*b
match a* aa
count
drop 9
fuse 20
add last
sync
seal
crash 1 2
get 4
open
open
count
get 4
nonsense
`

// P25.2: Run of two texts, at each cut behind an 0A, begins with what the first one answers alone; what is cut within a line does not change what is ahead.
func TestCuts(t *testing.T) {
	all := tool.Run(whole)
	for cut := range len(whole) + 1 {
		if cut > 0 && whole[cut-1] != '\n' {
			continue
		}
		if got := tool.Run(whole[:cut]); !strings.HasPrefix(all, got) {
			t.Errorf("Run of the first %d bytes: %q, want what begins %q", cut, got, all)
		}
	}
	if all != modelRun(whole) {
		t.Errorf("%q, want %q", all, modelRun(whole))
	}
}

// anyLine is a line by chance, of words that are known, maybe with others.
func anyLine(r *rand.Rand) string {
	words := []string{"add", "sync", "seal", "compact", "drop", "crash", "open", "fuse", "get", "count", "field", "like", "templates", "tokens", "states", "match", "#", "x"}
	rest := []string{"", "", " ", " 3", " 1", " 12", " 0 1", " up 3", " up 4", " down", " word up", " number 3", " a* aa", " (a|b)*a", " 1 1 1", "  ", " \xff\\", " -1", "\t"}
	if r.Intn(3) > 0 {
		return []string{"add up 3", "add up x", "add 3", "add " + fmt.Sprint("down ", r.Intn(9)), "sync", "seal", "compact", "count", "open", "crash", "field word up", "field number 3", "like 1", fmt.Sprint("drop ", r.Intn(20)), fmt.Sprint("get ", r.Intn(20)), fmt.Sprint("fuse ", r.Intn(100)), "templates", "open", "open"}[r.Intn(19)]
	}
	return words[r.Intn(len(words))] + rest[r.Intn(len(rest))]
}

// P25.1, P25.2: scripts by chance answer what they answer in plain words, and begin with what they answer up to a cut.
func TestByChance(t *testing.T) {
	for seed := range 60 {
		r := rand.New(rand.NewSource(int64(seed)))
		text, cut := "", 0
		for n := range 60 {
			text += anyLine(r) + "\n"
			if n == 20+seed%20 {
				cut = len(text)
			}
		}
		if seed%2 == 0 {
			text = strings.TrimSuffix(text, "\n")
		}
		got := tool.Run(text)
		if want := modelRun(text); got != want {
			t.Errorf("%d: Run(%q): %q, want %q", seed, text, got, want)
		}
		if first := tool.Run(text[:cut]); !strings.HasPrefix(got, first) || first != modelRun(text[:cut]) {
			t.Errorf("%d: Run(%q) does not begin what follows", seed, text[:cut])
		}
	}
}

// W1, W2: texts of any bytes; what is answered does not depend on other calls.
func TestTogether(t *testing.T) {
	want := tool.Run(whole)
	var all sync.WaitGroup
	for n := range 4 {
		all.Go(func() {
			r := rand.New(rand.NewSource(int64(n)))
			b := make([]byte, 2000)
			r.Read(b)
			for line := range strings.SplitSeq(string(b), "\n") {
				tool.Run(line)
			}
			tool.Run(string(b))
			if got := tool.Run(whole); got != want {
				t.Errorf("%q, want %q", got, want)
			}
		})
	}
	all.Wait()
}

package script_test

import (
	"math"
	"math/rand/v2"
	"strings"
	"testing"

	"cellarer/api"
	"cellarer/pack"
	"cellarer/script"
)

// Two slaves, of which the second one has no path.
var (
	slaves     = []api.Slave{{Name: "s.1", Link: "/s1"}, {Name: "s.2", Link: "/s2"}}
	slavePaths = []string{"/p1", ""}
)

// acts are commands of each kind, with all that their words state, and with as
// little as there may be.
var acts = []struct {
	text string
	act  api.Act
}{
	{"divert /a /b c rename", api.Act{Kind: 1, Path: "/a", To: "/b", Name: "c", Flag: true}},
	{"divert /a /b - keep", api.Act{Kind: 1, Path: "/a", To: "/b"}},
	{"divert /a - c keep", api.Act{Kind: 1, Path: "/a", Name: "c"}},
	{"divert /a - - keep", api.Act{Kind: 1, Path: "/a"}},
	{"divert /- - - rename", api.Act{Kind: 1, Path: "/-", Flag: true}},
	{"divert /a /- - keep", api.Act{Kind: 1, Path: "/a", To: "/-"}},
	{"undivert /a c rename", api.Act{Kind: 2, Path: "/a", Name: "c", Flag: true}},
	{"undivert /a - keep", api.Act{Kind: 2, Path: "/a"}},
	{"override /a 4755 5 6 force update", api.Act{Kind: 3, Path: "/a", Meta: api.Meta{Mode: 0o4755, Uid: 5, Gid: 6}, Force: true, Flag: true}},
	{"override /a 0000 0 0 once later", api.Act{Kind: 3, Path: "/a"}},
	{"override /a 7777 67108863 67108863 once update", api.Act{Kind: 3, Path: "/a", Meta: api.Meta{Mode: 4095, Uid: api.MaxId, Gid: api.MaxId}, Flag: true}},
	{"override /a 0010 0 0 force later", api.Act{Kind: 3, Path: "/a", Meta: api.Meta{Mode: 8}, Force: true}},
	{"unoverride /a", api.Act{Kind: 4, Path: "/a"}},
	{"install a /l /b 5 s.1 /s1 /p1 s.2 /s2 -", api.Act{Kind: 5, Name: "a", To: "/l", Path: "/b", Prio: 5, Slaves: slaves, Paths: slavePaths}},
	{"install a /l /b 0", api.Act{Kind: 5, Name: "a", To: "/l", Path: "/b"}},
	{"install a /l /b -2147483648", api.Act{Kind: 5, Name: "a", To: "/l", Path: "/b", Prio: math.MinInt32}},
	{"install a /l /b 2147483647", api.Act{Kind: 5, Name: "a", To: "/l", Path: "/b", Prio: math.MaxInt32}},
	{"install a " + longestLink + " /b 0", api.Act{Kind: 5, Name: "a", To: longestLink, Path: "/b"}},
	{"withdraw a /b", api.Act{Kind: 6, Name: "a", Path: "/b"}},
	{"remove-all a", api.Act{Kind: 7, Name: "a"}},
	{"set a /b", api.Act{Kind: 8, Name: "a", Path: "/b"}},
	{"auto a", api.Act{Kind: 9, Name: "a"}},
	{"auto " + longestName, api.Act{Kind: 9, Name: longestName}},
	{"fire a noawait", api.Act{Kind: 10, Name: "a", Flag: true}},
	{"fire a await", api.Act{Kind: 10, Name: "a"}},
	{"fire /a await", api.Act{Kind: 10, Name: "/a"}},
	{"fire " + longestPath + " await", api.Act{Kind: 10, Name: longestPath}},
}

// P27.1

func TestActText(t *testing.T) {
	for _, c := range acts {
		isAct(t, c.act, c.text)
	}
	many := api.Act{Kind: 5, Name: "a", To: "/l", Path: "/b"}
	text := "install a /l /b 0"
	for range 8 {
		many.Slaves, many.Paths = append(many.Slaves, slaves[1]), append(many.Paths, "")
		text += " s.2 /s2 -"
	}
	isAct(t, many, text)
	many.Slaves, many.Paths = append(many.Slaves, slaves[1]), append(many.Paths, "")
	noAct(t, many)
	noActText(t, text+" s.2 /s2 -")
}

// What is no command of a script has no text; here the checking of commands is
// leant on, which has tests of its own.
func TestActTextWrong(t *testing.T) {
	for _, a := range []api.Act{
		{}, {Kind: -1}, {Kind: 11}, {Kind: 20}, {Kind: 1}, {Kind: 5}, {Kind: 10},
		{Kind: 0, Name: "a"}, {Kind: 11, Name: "a", Path: "/a"},
		{Kind: 1, Path: "a"}, {Kind: 1, Path: "-"}, {Kind: 1, Path: "/"}, {Kind: 1, Path: "/a b"}, {Kind: 1, Path: "/var/lib/dpkg"},
		{Kind: 1, Path: "/a", To: "-"}, {Kind: 1, Path: "/a", Name: "-"}, {Kind: 2, Path: "/a", Name: "A"},
		{Kind: 3, Path: "/a", Meta: api.Meta{Mode: 4096}}, {Kind: 3, Path: "/a", Meta: api.Meta{Mode: -1}}, {Kind: 3, Path: "/a", Meta: api.Meta{Uid: -1}}, {Kind: 3, Path: "/a", Meta: api.Meta{Gid: api.MaxId + 1}},
		{Kind: 4, Path: longestPath + "p"}, {Kind: 4, Path: "/a.dpkg-new"},
		{Kind: 5, Name: "a", To: longestLink + "l", Path: "/b"}, {Kind: 5, Name: "a", Path: "/b"},
		{Kind: 5, Name: "a", To: "/l", Path: "/b", Prio: math.MaxInt32 + 1}, {Kind: 5, Name: "a", To: "/l", Path: "/b", Prio: math.MinInt32 - 1},
		{Kind: 5, Name: "a", To: "/l", Path: "/b", Slaves: slaves}, {Kind: 5, Name: "a", To: "/l", Path: "/b", Paths: slavePaths}, {Kind: 5, Name: "a", To: "/l", Path: "/b", Slaves: slaves, Paths: slavePaths[:1]},
		{Kind: 5, Name: "a", To: "/l", Path: "/b", Slaves: slaves[:1], Paths: []string{"-"}},
		{Kind: 7, Name: "-"}, {Kind: 9, Name: longestName + "n"}, {Kind: 9, Name: "a.dpkg-tmp"}, {Kind: 10, Name: "-"},
	} {
		if pack.Act(a) {
			t.Errorf("a command: %+v", a)
		}
		noAct(t, a)
	}
}

// stated is which fields the words of each kind of command state.
var stated = [11]string{
	1: " Kind Path To Name Flag ", 2: " Kind Path Name Flag ", 3: " Kind Path Meta.Mode Meta.Uid Meta.Gid Force Flag ", 4: " Kind Path ",
	5: " Kind Name To Path Prio Slaves Paths ", 6: " Kind Name Path ", 7: " Kind Name ", 8: " Kind Name Path ", 9: " Kind Name ", 10: " Kind Name Flag ",
}

// A command that has a field set which its words do not state has no text,
// however right it is.
func TestActTextFields(t *testing.T) {
	seen := 0
	for _, c := range acts {
		fields(c.act, func(name string, a api.Act) {
			if !strings.Contains(stated[a.Kind], " "+name+" ") {
				seen++
				if !pack.Act(a) {
					t.Errorf("no command: %+v", a)
				}
				noAct(t, a)
				noLine(t, api.Line{Kind: api.LAct, Act: a})
				noLine(t, api.Line{Kind: api.LScript, Act: a})
			}
		})
	}
	if seen < 100 {
		t.Errorf("only %d fields", seen)
	}
}

func TestActTexts(t *testing.T) {
	for _, s := range []string{
		"", "-", " ", "\n", "divert", "Divert /a - - keep", "diverts /a - - keep", "remove-al a", "unknown a", "process", "true /a -",
		"divert /a", "divert /a -", "divert /a - -", "divert /a - - keep more", "divert /a - - keep ", " divert /a - - keep", "divert  /a - - keep", "divert /a -  - keep", "divert /a - - keep\n", "divert\t/a - - keep",
		"divert /a - - kept", "divert /a - - Rename", "divert /a - - ", "divert /a - - once", "divert - - - keep", "divert a - - keep", "divert / - - keep", "divert /a/ - - keep", "divert /a b - keep", "divert /a - -- keep", "divert /a -- - keep",
		"undivert /a keep", "undivert /a - - keep", "undivert /a - no", "undivert - - keep",
		"override /a 0400 0 0 once", "override /a 0400 0 0 later", "override /a 0400 0 0 later once", "override /a 0400 0 0 once later x", "override /a 0400 0 once later", "override /a 0400 0 0 no later", "override /a 0400 0 0 once no",
		"override /a 400 0 0 once later", "override /a 00400 0 0 once later", "override /a 0800 0 0 once later", "override /a 040x 0 0 once later", "override /a -400 0 0 once later", "override /a 256 0 0 once later",
		"override /a 0400 -1 0 once later", "override /a 0400 0 -0 once later", "override /a 0400 +1 0 once later", "override /a 0400 01 0 once later", "override /a 0400 67108864 0 once later", "override /a 0400 0 67108864 once later", "override /a 0400 x 0 once later", "override /a 0400 - 0 once later",
		"unoverride", "unoverride ", "unoverride /a /b", "unoverride -", "unoverride /a\n",
		"install a /l /b", "install a /l /b 05", "install a /l /b +5", "install a /l /b -0", "install a /l /b 2147483648", "install a /l /b -2147483649", "install a /l /b 99999999999999999999", "install a /l /b 5 s", "install a /l /b 5 s /s", "install a /l /b 5 s /s - s", "install a /l /b 5 s /s - s /s", "install a /l /b 5 s /s ", "install a /l /b 5 ", "install a /l /b 5 s /s --", "install a - /b 5", "install - /l /b 5", "install a /l - 5", "install a /l /b 5 - /s -", "install a /l /b 5 s - -",
		"withdraw a", "withdraw a /b /c", "withdraw a -", "remove-all", "remove-all a b", "remove-all -", "set a", "set /b a", "set a /b ", "auto", "auto a a", "auto A", "auto " + longestName + "n",
		"fire a", "fire await", "fire a b await", "fire a Await", "fire - await", "fire a await ", "fire a awaits", "fire a noawait noawait",
		"install" + strings.Repeat(" ", 100000), strings.Repeat("a", 100000), strings.Repeat(" ", 100000), "install a /l /b 5" + strings.Repeat(" s /s /p", 100000),
		"\x00", "fire \xff await", "fire a\x00 await",
	} {
		noActText(t, s)
		if a, line := script.Line(s); line && a.Kind == api.LAct {
			t.Errorf("%q is a line", s)
		}
	}
}

// A text that is read is that of what was read.
func TestActRandom(t *testing.T) {
	r := dice{rand.New(rand.NewPCG(27, 1))}
	seen := [11]int{}
	for range 4000 {
		a, text := r.act()
		isAct(t, a, text)
		seen[a.Kind]++
		for range 4 {
			changed := r.changed(text)
			if got, ok := script.Act(changed); !ok {
				noActText(t, changed)
			} else if script.ActText(got) != changed {
				t.Errorf("%q is %+v", changed, got)
			}
		}
	}
	for kind, n := range seen[1:] {
		if n < 100 {
			t.Errorf("of kind %d were only %d", kind+1, n)
		}
	}
}

// changed is a text with a small change.
func (r dice) changed(s string) string {
	i := r.IntN(len(s))
	j := i + r.IntN(min(3, len(s)-i+1))
	return s[:i] + pick(r, "", "", " ", "-", "0", "a", "A", "/", "\n", "  ", " -", s[i:j]+s[i:j]) + s[j:]
}

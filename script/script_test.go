package script_test

import (
	"fmt"
	"math/rand/v2"
	"strings"
	"testing"

	"cellarer/api"
	"cellarer/script"
)

func text(n int) string { return fmt.Sprint(n) }

func digits(s string) string { return fmt.Sprintf("%x", s) }

// lines are some of each kind.
var lines = []struct {
	text string
	x    api.Line
}{
	{"divert /a - - keep", api.Line{Kind: 1, Act: api.Act{Kind: 1, Path: "/a"}}},
	{"install a /l /b 5 s.1 /s1 /p1 s.2 /s2 -", api.Line{Kind: 1, Act: api.Act{Kind: 5, Name: "a", To: "/l", Path: "/b", Prio: 5, Slaves: slaves, Paths: slavePaths}}},
	{"unpack a 1", api.Line{Kind: 2, Name: "a", Text: "1"}},
	{"configure a", api.Line{Kind: 3, Name: "a"}},
	{"remove a", api.Line{Kind: 4, Name: "a"}},
	{"purge a", api.Line{Kind: 5, Name: "a"}},
	{"process", api.Line{Kind: 6}},
	{"true /a b", api.Line{Kind: 7, Text: "/a", Name: "b"}},
	{"true /a -", api.Line{Kind: 7, Text: "/a"}},
	{"true - -", api.Line{Kind: 7, Text: "-"}},
	{"show a", api.Line{Kind: 8, Name: "a"}},
	{"show -", api.Line{Kind: 8, Name: "-"}},
	{"owner /a", api.Line{Kind: 9, Text: "/a"}},
	{"query a", api.Line{Kind: 10, Name: "a"}},
	{"codes", api.Line{Kind: 11}},
	{"codes 0", api.Line{Kind: 11, Nums: []int{0}}},
	{"codes 0 1 1073741824", api.Line{Kind: 11, Nums: []int{0, 1, most}}},
	{"limits 0 0 0", api.Line{Kind: 12}},
	{"limits 1 22 333", api.Line{Kind: 12, Limits: api.Limits{Bytes: 1, Files: 22, Name: 333}}},
	{"crash 0 0", api.Line{Kind: 13}},
	{"crash 1 22 333 4", api.Line{Kind: 13, N: 1, Keep: 22, Nums: []int{333, 4}}},
	{"package a 1", api.Line{Kind: 14, Name: "a", Text: "1"}},
	{"package - -", api.Line{Kind: 14, Name: "-", Text: "-"}},
	{"depends", api.Line{Kind: 15}},
	{"depends a (>= 1) | b, c", api.Line{Kind: 15, Depends: [][]api.Rel{{{Name: "a", Op: ">=", Version: "1"}, {Name: "b"}}, {{Name: "c"}}}}},
	{"conflicts", api.Line{Kind: 16}},
	{"conflicts a (<< 2), b", api.Line{Kind: 16, Conflicts: []api.Rel{{Name: "a", Op: "<<", Version: "2"}, {Name: "b"}}}},
	{"replaces", api.Line{Kind: 17}},
	{"replaces b a", api.Line{Kind: 17, Names: []string{"b", "a"}}},
	{"dir /a 0755 1 22", api.Line{Kind: 18, File: api.File{Path: "/a", Kind: api.KDir, Meta: api.Meta{Mode: 0o755, Uid: 1, Gid: 22}}}},
	{"file /a 0644 0 0 -", api.Line{Kind: 18, File: api.File{Path: "/a", Kind: api.KFile, Meta: api.Meta{Mode: 0o644}}}},
	{"file /a 0644 0 0 6162630a00ff", api.Line{Kind: 18, File: api.File{Path: "/a", Kind: api.KFile, Meta: api.Meta{Mode: 0o644}, Text: "abc\n\x00\xff"}}},
	{"conffile /a 0644 0 0 2d", api.Line{Kind: 18, File: api.File{Path: "/a", Kind: api.KFile, Meta: api.Meta{Mode: 0o644}, Text: "-", Conf: true}}},
	{"conffile /a 0644 0 0 -", api.Line{Kind: 18, File: api.File{Path: "/a", Kind: api.KFile, Meta: api.Meta{Mode: 0o644}, Conf: true}}},
	{"link /a 0777 0 0 62", api.Line{Kind: 18, File: api.File{Path: "/a", Kind: api.KLink, Meta: api.Meta{Mode: 0o777}, Text: "b"}}},
	{"link /a 0777 0 0 -", api.Line{Kind: 18, File: api.File{Path: "/a", Kind: api.KLink, Meta: api.Meta{Mode: 0o777}}}},
	{"interest t noawait", api.Line{Kind: 19, Name: "t", Flag: true}},
	{"interest /t await", api.Line{Kind: 19, Name: "/t"}},
	{"preinst fire t await", api.Line{Kind: 20, Act: api.Act{Kind: 10, Name: "t"}}},
	{"postinst unoverride /a", api.Line{Kind: 20, N: 1, Act: api.Act{Kind: 4, Path: "/a"}}},
	{"prerm divert /a - - keep", api.Line{Kind: 20, N: 2, Act: api.Act{Kind: 1, Path: "/a"}}},
	{"postrm auto a", api.Line{Kind: 20, N: 3, Act: api.Act{Kind: 9, Name: "a"}}},
}

// P27.2

func TestText(t *testing.T) {
	seen := [21]int{}
	for _, c := range lines {
		isLine(t, c.x, c.text)
		seen[c.x.Kind]++
	}
	for kind, n := range seen[1:] {
		if n == 0 {
			t.Errorf("no line of kind %d", kind+1)
		}
	}
}

// P27.4

// wrongTexts are those of no line.
var wrongTexts = []string{
	"", " ", "-", "a", "\x00", "Process", "processes", "process ", " process", "process process", "process -", "process\n", "process\r",
	"unpack", "unpack a", "unpack a ", "unpack  a 1", "unpack a  1", "unpack a 1 ", "unpack a 1 2", " unpack a 1", "unpack a\t1", "unpack a 1\n",
	"configure", "configure ", "configure a b", "configure  a", "configure a ", "remove", "remove ", "remove a b", "purge", "purge a ", "remove-all", "remove-",
	"true", "true ", "true /a", "true /a ", "true /a b c", "true /a - -", "true  -", "true /a  b", "show", "show ", "show a b", "owner", "owner ", "owner /a -", "owner /a /b", "query", "query ", "query a a",
	"codes ", "codes  1", "codes 1 ", "codes 1  2", "codes 01", "codes +1", "codes -1", "codes -0", "codes 00", "codes x", "codes 1x", "codes 0x1", "codes 1.0", "codes 1_0", "codes -", "codes 99999999999999999999", "codes 1073741825",
	"limits", "limits 1", "limits 1 2", "limits 1 2 ", "limits 1 2 3 4", "limits 1 2 03", "limits 1 2 -3", "limits  1 2 3", "limits 1 2 3 ", "limits - - -",
	"crash", "crash 1", "crash 1 ", "crash  1 2", "crash 1 2 ", "crash 1 2 -1", "crash 01 2", "crash 1 +2", "crash 1 2 03", "crash -1 2", "crash x y",
	"package", "package a", "package a ", "package a 1 2", "package  1",
	"depends ", "depends  a", "depends a ", "depends a,b", "depends a, ", "depends a |b", "depends a | ", "depends a (1)", "depends a(= 1)", "depends a (= 1", "depends a (=1)", "depends a (= 1) ", "depends A", "depends -", "depends a b", "depends a (= x)", "depends a, , b",
	"conflicts ", "conflicts a | b", "conflicts a,", "conflicts a , b", "conflicts a (> 1)", "conflicts -",
	"replaces ", "replaces  a", "replaces a ", "replaces a  b",
	"dir", "dir /a", "dir /a 0755", "dir /a 0755 0", "dir /a 0755 0 0 ", "dir /a 0755 0 0 -", "dir /a 0755 0 0 61", "dir /a 755 0 0", "dir /a 0855 0 0", "dir /a 07555 0 0", "dir /a 0755 00 0", "dir /a 0755 0 +0", "dir /a 0755 67108864 0", "dir /a 0755 0 -1", "dir  0755 0 0",
	"file /a 0755 0 0", "file /a 0755 0 0 ", "file /a 0755 0 0 6", "file /a 0755 0 0 616", "file /a 0755 0 0 6A", "file /a 0755 0 0 6g", "file /a 0755 0 0 g6", "file /a 0755 0 0 -1", "file /a 0755 0 0 --", "file /a 0755 0 0 -61", "file /a 0755 0 0 61 61", "file /a 0755 0 0 61 ", "file /a 0755 0 0  61", "file /a 0755 0 0 0x61", "file /a 0755 0 0 FF", "file /a 0755 0 0 /f", "file /a 0755 0 0 f/",
	"conffile", "conffile /a 0755 0 0", "conffile /a 0755 0 0 a", "Conffile /a 0755 0 0 -", "conf /a 0755 0 0 -", "link /a 0755 0 0", "link /a 0755 0 0 x", "conflink /a 0755 0 0 -", "confdir /a 0755 0 0",
	"interest", "interest t", "interest await", "interest t no", "interest t await ", "interest t await await", "interest  await", "interest t Noawait", "interest t - await",
	"preinst", "preinst ", "preinst  fire t await", "preinst fire t", "preinst fire t await ", "preinst process", "preinst preinst fire t await", "preinst unpack a 1", "Preinst fire t await", "postinst -", "prerm", "postrm x", "config fire t await",
}

func TestLineWrong(t *testing.T) {
	for _, s := range wrongTexts {
		noText(t, s)
	}
	for _, c := range lines {
		for _, s := range []string{" " + c.text, c.text + " ", c.text + "\n", "\n" + c.text, c.text + "  ", strings.Replace(c.text, " ", "  ", 1), strings.Replace(c.text, " ", "\t", 1), strings.ToUpper(c.text[:1]) + c.text[1:]} {
			if s != c.text {
				noText(t, s)
			}
		}
	}
}

// Texts of which one would be long at are no lines either.
func TestLineLong(t *testing.T) {
	for _, word := range []string{"codes", "crash 0 0", "replaces", "install a /l /b 0", "depends", "conflicts", "true", "unpack", "preinst install a /l /b 0", "none"} {
		for _, more := range []string{" ", " 0", " a", " a, b", " s /s -"} {
			noText(t, word+strings.Repeat(more, 1<<18))
		}
	}
	noText(t, "show "+strings.Repeat("a", 1<<22))
	noText(t, "codes "+strings.Repeat("0", 1<<22))
	noText(t, "codes 1"+strings.Repeat("0", 1<<22))
}

func TestParse(t *testing.T) {
	zero, process, show := api.Line{}, api.Line{Kind: api.LProcess}, api.Line{Kind: api.LShow, Name: "a"}
	for s, want := range map[string][]api.Line{
		"":                                 nil,
		"\n":                               {zero},
		"\n\n":                             {zero, zero},
		" ":                                {zero},
		"process":                          {process},
		"process\n":                        {process},
		"process\n\n":                      {process, zero},
		"\nprocess":                        {zero, process},
		"process\nshow a":                  {process, show},
		"process\nshow a\n":                {process, show},
		"process\n\n\nshow a\n":            {process, zero, zero, show},
		"process\nx\nshow a\n ":            {process, zero, show, zero},
		"process\r\nshow a\n":              {zero, show},
		"process show a\n":                 {zero},
		"show a\nprocess \nprocess":        {show, zero, process},
		"x\n" + strings.Repeat("a", 1<<20): {zero, zero},
	} {
		if got := script.Parse(s); !same(got, want) {
			t.Errorf("%.80q: %+v, want %+v", s, got, want)
		}
	}
}

func TestParseMany(t *testing.T) {
	for n := 198; n < 204; n++ {
		for _, line := range []string{"process", "", "x"} {
			var want []api.Line
			x, _ := script.Line(line)
			for range min(n, 200) {
				want = append(want, x)
			}
			s := strings.Repeat(line+"\n", n)
			if got := script.Parse(s); !same(got, want) {
				t.Errorf("%d of %q: %d", n, line, len(got))
			}
			// Without the last line feed an empty part is none.
			if line == "" {
				want = want[:min(n-1, 200)]
			}
			if got := script.Parse(strings.TrimSuffix(s, "\n")); !same(got, want) {
				t.Errorf("%d of %q, without the last line feed: %d", n, line, len(got))
			}
		}
	}
	if got := script.Parse(strings.Repeat("\n", 200) + "process\n" + strings.Repeat("x", 1<<22)); len(got) != 200 || got[199].Kind != 0 {
		t.Errorf("%d lines", len(got))
	}
}

func TestPrint(t *testing.T) {
	if got := script.Print(nil); got != "" {
		t.Errorf("of none: %q", got)
	}
	if got := script.Print([]api.Line{{}}); got != "\n" {
		t.Errorf("of one that may not be: %q", got)
	}
	var l []api.Line
	var want string
	for range 10 {
		for _, c := range lines {
			l, want = append(l, c.x, api.Line{Kind: c.x.Kind, Name: " "}), want+c.text+"\n\n"
		}
	}
	before := whole(l)
	if got := script.Print(l); got != want {
		t.Errorf("%q, want %q", got, want)
	}
	if whole(l) != before {
		t.Error("the lines were changed")
	}
}

// P27.5

// What is written is read again, and what is read is written in the same way.
func TestRandom(t *testing.T) {
	r := dice{rand.New(rand.NewPCG(27, 5))}
	seen := [21]int{}
	for range 2000 {
		var l []api.Line
		var texts []string
		for range r.IntN(8) {
			x, text := r.line()
			isLine(t, x, text)
			seen[x.Kind]++
			l, texts = append(l, x), append(texts, text+"\n")
			for range 4 {
				changed := r.changed(text)
				if got, ok := script.Line(changed); !ok {
					noText(t, changed)
				} else if !script.Right(got) || script.Text(got) != changed {
					t.Errorf("%q is %+v", changed, got)
				}
			}
		}
		s := strings.Join(texts, "")
		if got := script.Print(l); got != s {
			t.Errorf("%q, want %q", got, s)
		}
		if got := script.Parse(s); !same(got, l) {
			t.Errorf("%q: %+v, want %+v", s, got, l)
		}
	}
	for kind, n := range seen[1:] {
		if n < 100 {
			t.Errorf("of kind %d were only %d", kind+1, n)
		}
	}
}

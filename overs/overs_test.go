package overs_test

import (
	"fmt"
	"math"
	"math/rand/v2"
	"regexp"
	"slices"
	"strings"
	"testing"

	"cellarer/api"
	"cellarer/overs"
)

var longestPath = "/" + strings.Repeat("a", 199)

// near gives texts that differ from one by one byte: one that is lacking, one
// in another's place, or one more.
func near(s string, f func(string)) {
	const others = " \n\t\x00\x7f\xffaAb1078/#-+.,"
	for i := range len(s) + 1 {
		for j := range len(others) {
			f(s[:i] + others[j:j+1] + s[i:])
		}
		if i == len(s) {
			return
		}
		f(s[:i] + s[i+1:])
		for j := range len(others) {
			f(s[:i] + others[j:j+1] + s[i+1:])
		}
	}
}

func over(uid, gid, mode int, p string) api.Over {
	return api.Over{Path: p, Meta: api.Meta{Mode: mode, Uid: uid, Gid: gid}}
}

// of is overrides of paths, each with another uid.
func of(paths ...string) []api.Over {
	var out []api.Over
	for i, p := range paths {
		out = append(out, over(i, 0, 0o755, p))
	}
	return out
}

func many(n int) []api.Over {
	var out []api.Over
	for i := range n {
		out = append(out, over(i, 0, 0o755, fmt.Sprintf("/a%03d", i)))
	}
	return out
}

// P10.1

var right = []api.Over{
	over(0, 0, 0, "/"), over(0, 5, 0o4755, "/a"), over(api.MaxId, 0, 0, "/a/b"), over(0, api.MaxId, 0, "/a"), over(0, 0, 4095, "/A_b#"),
	over(api.MaxId, api.MaxId, 4095, longestPath),
}

var wrong = []api.Over{
	{}, over(0, 0, 0, ""), over(0, 0, 0, "a"), over(0, 0, 0, "/a/"), over(0, 0, 0, "//a"), over(0, 0, 0, "/a/.."), over(0, 0, 0, "/a b"),
	over(0, 0, 0, "/a\n"), over(0, 0, 0, longestPath+"a"),
	over(-1, 0, 0, "/a"), over(api.MaxId+1, 0, 0, "/a"), over(0, -1, 0, "/a"), over(0, api.MaxId+1, 0, "/a"), over(0, 0, -1, "/a"), over(0, 0, 4096, "/a"),
	over(math.MinInt, 0, 0, "/a"), over(0, math.MaxInt, 0, "/a"), over(0, 0, 1<<32, "/a"),
}

func TestRight(t *testing.T) {
	for _, x := range right {
		if !overs.Right(x) {
			t.Errorf("Right(%v): false", x)
		}
	}
	for _, x := range wrong {
		if overs.Right(x) {
			t.Errorf("Right(%v): true", x)
		}
	}
}

func TestCheck(t *testing.T) {
	for _, c := range []struct {
		l    []api.Over
		want api.Errno
	}{
		{nil, api.OK},
		{[]api.Over{}, api.OK},
		{of("/"), api.OK},
		{of("/", "/A", "/a", "/a+", "/a/b", "/b"), api.OK},
		{of("/a", "/a"), api.EARG},
		{slices.Repeat(of("/a"), 2), api.EARG},
		{of("/b", "/a"), api.EARG},
		{of("/a", "/c", "/b"), api.EARG},
		{of("/a", "/b", "/b"), api.EARG},
		{many(64), api.OK},
		{many(65), api.EFULL},
		{make([]api.Over, 65), api.EFULL},
		{make([]api.Over, 64), api.EARG},
	} {
		if got := overs.Check(c.l); got != c.want {
			t.Errorf("Check(%v): %d, want %d", c.l, got, c.want)
		}
		if s, e := overs.Print(c.l); e != c.want || e != api.OK && s != "" {
			t.Errorf("Print(%v): %q %d, want %d", c.l, s, e, c.want)
		}
	}
	for _, x := range right {
		if got := overs.Check([]api.Over{x}); got != api.OK {
			t.Errorf("Check with %v: %d", x, got)
		}
	}
	for _, x := range wrong {
		for _, l := range [][]api.Over{{x}, {over(0, 0, 0, "/"), x}, {x, over(0, 0, 0, "/z")}} {
			if got := overs.Check(l); got != api.EARG {
				t.Errorf("Check(%v): %d", l, got)
			}
		}
	}
}

// printed are overrides, and what is printed of them.
var printed = []struct {
	l []api.Over
	s string
}{
	{nil, ""},
	{[]api.Over{over(0, 5, 0o4755, "/a")}, "#0 #5 4755 /a\n"},
	{[]api.Over{over(0, 0, 0, "/")}, "#0 #0 0000 /\n"},
	{[]api.Over{over(api.MaxId, 10, 0o7777, "/a"), over(1, api.MaxId, 0o644, "/a/b"), over(3, 2, 1, "/c")},
		"#67108863 #10 7777 /a\n#1 #67108863 0644 /a/b\n#3 #2 0001 /c\n"},
}

func TestPrint(t *testing.T) {
	for _, c := range printed {
		if got, e := overs.Print(c.l); got != c.s || e != api.OK {
			t.Errorf("Print(%v): %q %d, want %q", c.l, got, e, c.s)
		}
	}
}

func TestParse(t *testing.T) {
	for _, c := range printed {
		if got, e := overs.Parse(c.s); !slices.Equal(got, c.l) || e != api.OK {
			t.Errorf("Parse(%q): %v %d, want %v", c.s, got, e, c.l)
		}
	}
}

func TestParseRefuses(t *testing.T) {
	s, _ := overs.Print(many(64))
	for _, s := range []string{
		"\n", " \n", "a", "#0 #5 4755 /a", "#0 #5 4755 /a\n\n", "\n#0 #5 4755 /a\n", "#0 #5 4755 /a\r\n", "#0 #5 4755\n/a\n",
		"#0 #5 4755\n", "#0 #5 /a\n", "4755 /a\n", "/a\n", "#0 #5 4755 /a /b\n", "#0 #5 4755 /a #0\n", "#0  #5 4755 /a\n", " #0 #5 4755 /a\n", "#0 #5 4755 /a \n", "#0\t#5 4755 /a\n",
		"0 #5 4755 /a\n", "#0 5 4755 /a\n", "# #5 4755 /a\n", "#0 # 4755 /a\n", "##0 #5 4755 /a\n", "#00 #5 4755 /a\n", "#+0 #5 4755 /a\n", "#-0 #5 4755 /a\n", "#-1 #5 4755 /a\n",
		"#a #5 4755 /a\n", "root #5 4755 /a\n", "#0 root 4755 /a\n", "#0x1 #5 4755 /a\n", "#1_0 #5 4755 /a\n", "#67108864 #5 4755 /a\n", "#0 #67108864 4755 /a\n", "#99999999999999999999 #5 4755 /a\n",
		"#0 #5 755 /a\n", "#0 #5 04755 /a\n", "#0 #5 4758 /a\n", "#0 #5 8755 /a\n", "#0 #5 0o75 /a\n", "#0 #5 -755 /a\n", "#0 #5 #4755 /a\n",
		"#0 #5 4755 a\n", "#0 #5 4755 /a/\n", "#0 #5 4755 //\n", "#0 #5 4755 /.\n", "#0 #5 4755 /\x7f\n", "#0 #5 4755 " + longestPath + "a\n",
		"4755 #0 #5 /a\n", "/a #0 #5 4755\n",
		"#0 #5 4755 /b\n#0 #5 4755 /a\n", "#0 #5 4755 /a\n#0 #5 4755 /a\n", "#0 #5 4755 /a\n#1 #6 4754 /a\n", "#0 #5 4755 /a\n\n#0 #5 4755 /b\n",
		s + "#0 #5 4755 /b\n", "#0 #5 4755 /\n" + s,
		strings.Repeat("#0 #5 4755 /a\n", 100000), strings.Repeat("\n", 100000), strings.Repeat("#", 100000) + "\n", "#" + strings.Repeat("0", 100000) + " #5 4755 /a\n",
	} {
		if got, e := overs.Parse(s); len(got) != 0 || e != api.EFORM {
			t.Errorf("Parse(%.100q): %v %d", s, got, e)
		}
	}
}

// P10.2

func TestFind(t *testing.T) {
	l := of("/b", "/a", "/b", "")
	for p, want := range map[string]int{"/b": 0, "/a": 1, "": 3, "/": -1, "/A": -1, "b": -1} {
		if got := overs.Find(l, p); got != want {
			t.Errorf("Find(%q): %d, want %d", p, got, want)
		}
	}
	if got := overs.Find(nil, ""); got != -1 {
		t.Errorf("Find in nothing: %d", got)
	}
}

func TestPut(t *testing.T) {
	x := over(9, 9, 9, "/c")
	for _, c := range []struct {
		paths []string
		at    int // where it comes to stand, and whether in another's place
		other bool
	}{
		{nil, 0, false},
		{[]string{"/d"}, 0, false},
		{[]string{"/a"}, 1, false},
		{[]string{"/a", "/d"}, 1, false},
		{[]string{"/a", "/c", "/d"}, 1, true},
		{[]string{"/c"}, 0, true},
		{[]string{"/c", "/c"}, 0, true},
		// A list that does not rise.
		{[]string{"/d", "/c"}, 1, true},
		{[]string{"/b", "/e", "/a", "/d"}, 1, false},
		// Neither limits nor forms are asked for.
		{slices.Repeat([]string{"/b"}, 100), 100, false},
		{[]string{"", ""}, 2, false},
	} {
		l := of(c.paths...)
		rest := c.at
		if c.other {
			rest++
		}
		want := slices.Concat(l[:c.at], []api.Over{x}, l[rest:])
		if got := overs.Put(l, x); !slices.Equal(got, want) {
			t.Errorf("Put(%v): %v, want %v", l, got, want)
		}
	}
}

func TestDrop(t *testing.T) {
	l := of("/b", "/a", "/b", "/c")
	for _, c := range []struct {
		p    string
		want []api.Over
	}{
		{"/b", []api.Over{l[1], l[3]}}, {"/a", []api.Over{l[0], l[2], l[3]}}, {"/c", l[:3]}, {"/d", l}, {"", l},
	} {
		if got := overs.Drop(l, c.p); !slices.Equal(got, c.want) {
			t.Errorf("Drop(%q): %v, want %v", c.p, got, c.want)
		}
	}
	if got := overs.Drop(of("/a", "/a"), "/a"); len(got) != 0 {
		t.Errorf("Drop of all: %v", got)
	}
	if got := overs.Drop(nil, ""); len(got) != 0 {
		t.Errorf("Drop from nothing: %v", got)
	}
}

func TestMeta(t *testing.T) {
	m := api.Meta{Mode: -1, Uid: -2, Gid: -3}
	l := []api.Over{over(1, 2, 3, "/b"), over(4, 5, 6, "/a"), over(7, 8, 9, "/b"), over(0, 0, 0, "/c")}
	for p, want := range map[string]api.Meta{"/b": l[0].Meta, "/a": l[1].Meta, "/c": {}, "/d": m, "/a/b": m, "/": m, "": m} {
		if got := overs.Meta(l, p, m); got != want {
			t.Errorf("Meta(%q): %v, want %v", p, got, want)
		}
	}
	if got := overs.Meta(nil, "/a", m); got != m {
		t.Errorf("Meta in nothing: %v", got)
	}
}

// Arguments stay as they are, with what lies behind their ends (rule 4).
func TestArgumentsStay(t *testing.T) {
	l := many(5)
	for _, part := range [][]api.Over{l[:0], l[:2], l} {
		overs.Put(part, over(9, 9, 9, "/a0005"))
		overs.Put(part, over(9, 9, 9, "/a000"))
		overs.Put(part, over(9, 9, 9, "/z"))
		overs.Drop(part, "/a000")
		overs.Drop(part, "/x")
		overs.Print(part)
	}
	if !slices.Equal(l, many(5)) {
		t.Errorf("changed: %v", l)
	}
}

// P10.3

func TestPrintedIsParsed(t *testing.T) {
	r := rand.New(rand.NewPCG(10, 3))
	paths := []string{"/", "/#", "/a", "/a/b", "/b", "/c0"}
	for range 5000 {
		var l []api.Over
		for _, p := range paths {
			if r.IntN(2) > 0 {
				l = append(l, over(r.IntN(1<<r.IntN(27)), r.IntN(1<<r.IntN(27)), r.IntN(4096), p))
			}
		}
		s, e := overs.Print(l)
		if e != api.OK {
			t.Fatalf("Print(%v): %d", l, e)
		}
		if got, e := overs.Parse(s); !slices.Equal(got, l) || e != api.OK {
			t.Fatalf("Parse(%q): %v %d, want %v", s, got, e, l)
		}
	}
	for mode := range 4096 {
		l := []api.Over{over(0, 0, mode, "/a")}
		s, e := overs.Print(l)
		if want := fmt.Sprintf("#0 #0 %04o /a\n", mode); s != want || e != api.OK {
			t.Fatalf("Print(%v): %q %d, want %q", l, s, e, want)
		}
		if got, e := overs.Parse(s); !slices.Equal(got, l) || e != api.OK {
			t.Fatalf("Parse(%q): %v %d", s, got, e)
		}
	}
	s, _ := overs.Print(many(64))
	if got, e := overs.Parse(s); !slices.Equal(got, many(64)) || e != api.OK {
		t.Errorf("Parse of 64: %v %d", got, e)
	}
}

// forms are the texts of overrides of short ids and paths of one part, but for
// their order.
var forms = regexp.MustCompile(`^(#(0|[1-9][0-9]{0,6}) #(0|[1-9][0-9]{0,6}) [0-7]{4} /([!-.0-~]+(/[!-.0-~]+)*)?\n)*$`)

// What is one byte beside a text is either what other overrides print, or not
// parsed.
func TestParsedIsPrinted(t *testing.T) {
	count := 0
	for _, c := range []string{"#0 #5 4755 /a\n", "#10 #670886 0644 /a/b\n#1 #2 0000 /c\n", "#0 #0 7777 /\n"} {
		near(c, func(s string) {
			l, e := overs.Parse(s)
			dotted := strings.Contains(s, "/./") || strings.Contains(s, "/.\n")
			falls := strings.Count(s, "\n") > 1 && e != api.OK // of one line nothing falls
			if want := forms.MatchString(s) && !dotted && !falls; want != (e == api.OK) || !want && (e != api.EFORM || len(l) != 0) {
				t.Fatalf("Parse(%q): %v %d", s, l, e)
			}
			if e != api.OK {
				return
			}
			count++
			if again, e := overs.Print(l); again != s || e != api.OK {
				t.Fatalf("Print(%v): %q %d, want %q", l, again, e, s)
			}
		})
	}
	if count < 300 {
		t.Errorf("only %d texts", count)
	}
}

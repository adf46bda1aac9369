package divs_test

import (
	"fmt"
	"math/rand/v2"
	"slices"
	"strings"
	"testing"

	"cellarer/api"
	"cellarer/divs"
)

var (
	longest     = strings.Repeat("a", 60)
	longestPath = "/" + strings.Repeat("a", 199)
)

// near gives texts that differ from one by one byte: one that is lacking, one
// in another's place, or one more.
func near(s string, f func(string)) {
	const others = " \n\t\x00\x7f\xffaAb10/:-.,"
	for i := range len(s) + 1 {
		for j := range len(others) {
			f(s[:i] + others[j:j+1] + s[i:])
		}
		if i == len(s) {
			return
		}
		f(s[:i] + s[i+1:])
		for j := range len(others) {
			f(s[:i] + others[j:j+1] + s[i+1:])
		}
	}
}

// div is a diversion, of a path, a To, and a By if there is one.
func div(p, to string, by ...string) api.Divert {
	return api.Divert{Path: p, To: to, By: strings.Join(by, "")}
}

// diverted is diversions of paths, each to the same with .x after it.
func diverted(paths ...string) []api.Divert {
	var out []api.Divert
	for _, p := range paths {
		out = append(out, div(p, p+".x"))
	}
	return out
}

func many(n int) []api.Divert {
	var out []api.Divert
	for i := range n {
		out = append(out, diverted(fmt.Sprintf("/a%03d", i))...)
	}
	return out
}

// P9.1

var right = []api.Divert{
	div("/a", "/b"), div("/b", "/a"), div("/a", "/a/b"), div("/a/b", "/a"), div("/a", "/A_b", "x"), div("/a", "/b", "0.b+c-"),
	div("/a", "/b", longest), div(longestPath, "/a"), div("/a", longestPath, "a"), div("/:", "/::"),
}

var wrong = []api.Divert{
	{},
	div("", "/b"), div("/a", ""), div("/", "/b"), div("/a", "/"), div("/", "/"), div("/a", "/a"), div("/a", "/a", "x"), div(longestPath, longestPath),
	div("a", "/b"), div("/a", "b"), div("/a/", "/b"), div("/a", "/b/"), div("/a//c", "/b"), div("/a", "/b/./c"), div("/a/../c", "/b"),
	div("/a b", "/b"), div("/a", "/b\n"), div("/a", "/ä"), div(longestPath+"a", "/b"), div("/a", longestPath+"a"),
	div("/a", "/b", ":"), div("/a", "/b", "A"), div("/a", "/b", "-"), div("/a", "/b", "x y"), div("/a", "/b", "/x"), div("/a", "/b", " "),
	div("/a", "/b", "x\n"), div("/a", "/b", longest+"a"),
}

func TestRight(t *testing.T) {
	for _, x := range right {
		if !divs.Right(x) {
			t.Errorf("Right(%q): false", x)
		}
	}
	for _, x := range wrong {
		if divs.Right(x) {
			t.Errorf("Right(%q): true", x)
		}
	}
}

func TestCheck(t *testing.T) {
	for _, c := range []struct {
		l    []api.Divert
		want api.Errno
	}{
		{nil, api.OK},
		{[]api.Divert{}, api.OK},
		{diverted("/a"), api.OK},
		{diverted("/A", "/a", "/a+", "/a/b", "/b"), api.OK},
		{diverted("/a", "/a"), api.EARG},
		{diverted("/b", "/a"), api.EARG},
		{diverted("/a", "/c", "/b"), api.EARG},
		{[]api.Divert{div("/a", "/x"), div("/a", "/y")}, api.EARG},
		{[]api.Divert{div("/a", "/x", "p"), div("/b", "/y", "p")}, api.OK},
		// A To that is a Path, ahead or behind, or a To.
		{[]api.Divert{div("/a", "/b"), div("/b", "/c")}, api.EARG},
		{[]api.Divert{div("/a", "/c"), div("/b", "/a")}, api.EARG},
		{[]api.Divert{div("/a", "/b"), div("/b", "/a")}, api.EARG},
		{[]api.Divert{div("/a", "/c"), div("/b", "/c")}, api.EARG},
		{[]api.Divert{div("/a", "/c", "x"), div("/b", "/c", "y")}, api.EARG},
		{[]api.Divert{div("/a", "/x"), div("/b", "/y"), div("/c", "/x")}, api.EARG},
		{[]api.Divert{div("/a", "/x"), div("/b", "/y"), div("/c", "/b")}, api.EARG},
		{[]api.Divert{div("/a", "/b/c"), div("/b", "/a/c")}, api.OK},
		{many(64), api.OK},
		{many(65), api.EFULL},
		{append(many(64), many(1)...), api.EFULL},
		{make([]api.Divert, 65), api.EFULL},
		{make([]api.Divert, 64), api.EARG},
		{slices.Concat(many(63), []api.Divert{div("/b", "/a000.x")}), api.EARG},
		{slices.Concat(many(63), []api.Divert{div("/b", "/a062")}), api.EARG},
	} {
		if got := divs.Check(c.l); got != c.want {
			t.Errorf("Check(%.200q): %d, want %d", c.l, got, c.want)
		}
		if s, e := divs.Print(c.l); e != c.want || e != api.OK && s != "" {
			t.Errorf("Print(%.200q): %q %d, want %d", c.l, s, e, c.want)
		}
	}
	for _, x := range right {
		if got := divs.Check([]api.Divert{x}); got != api.OK {
			t.Errorf("Check with %q: %d", x, got)
		}
	}
	for _, x := range wrong {
		for _, l := range [][]api.Divert{{x}, {div("/", "/x"), x}, {x, div("/z", "/zz")}} {
			if got := divs.Check(l); got != api.EARG {
				t.Errorf("Check(%q): %d", l, got)
			}
		}
	}
}

// P9.2

// printed are diversions, and what is printed of them.
var printed = []struct {
	l []api.Divert
	s string
}{
	{nil, ""},
	{[]api.Divert{div("/a", "/b")}, "/a\n/b\n:\n"},
	{[]api.Divert{div("/a", "/b", "x")}, "/a\n/b\nx\n"},
	{[]api.Divert{div("/a", "/a.distrib"), div("/b/c", "/d", "x-1.0"), div("/e", "/:")}, "/a\n/a.distrib\n:\n/b/c\n/d\nx-1.0\n/e\n/:\n:\n"},
}

func TestPrint(t *testing.T) {
	for _, c := range printed {
		if got, e := divs.Print(c.l); got != c.s || e != api.OK {
			t.Errorf("Print(%q): %q %d, want %q", c.l, got, e, c.s)
		}
	}
	if got, e := divs.Print(many(64)); strings.Count(got, "\n") != 3*64 || e != api.OK {
		t.Errorf("Print of 64: %q %d", got, e)
	}
}

func TestParse(t *testing.T) {
	for _, c := range printed {
		if got, e := divs.Parse(c.s); !slices.Equal(got, c.l) || e != api.OK {
			t.Errorf("Parse(%q): %q %d, want %q", c.s, got, e, c.l)
		}
	}
}

func TestParseRefuses(t *testing.T) {
	s, _ := divs.Print(many(64))
	for _, s := range []string{
		"\n", "\n\n\n", "a", "/a\n", "/a\n/b\n", "/a\n/b\n:", "/a\n/b\n\n", "/a\n/b\n:\n\n", "\n/a\n/b\n:\n", "/a\n/b\n:\n/c\n", "/a\n/b\n:\n/c\n/d\n",
		"/a\n\n/b\n:\n", "/a\r\n/b\r\n:\r\n", "/a /b :\n", "/a\n/b\n :\n", "/a\n/b\n::\n", "/a\n/b\n:x\n", "/a\n/b\nX\n", "/a\n/b\nx y\n", "/a\n/b\n-\n",
		"/a\n/a\n:\n", "/\n/b\n:\n", "/a\n/\n:\n", "a\n/b\n:\n", "/a\nb\n:\n", "/a/\n/b\n:\n", "/a\n/b/.\n:\n", ":\n/b\n/a\n", "/a\n:\n/b\n",
		// Paths that do not rise; a To that is a Path or a To.
		"/b\n/c\n:\n/a\n/d\n:\n", "/a\n/c\n:\n/a\n/c\n:\n", "/a\n/c\n:\n/a\n/d\n:\n", "/a\n/b\n:\n/b\n/c\n:\n", "/a\n/c\n:\n/b\n/a\n:\n", "/a\n/c\n:\n/b\n/c\n:\n",
		s + "/b\n/c\n:\n", "/A\n/c\n:\n" + s, "/" + longestPath + "\n/b\n:\n", "/a\n/" + longestPath + "\n:\n", "/a\n/b\n" + longest + "a\n",
		strings.Repeat("\n", 300000), strings.Repeat("/a\n/b\n:\n", 100000), strings.Repeat("a", 300000),
	} {
		if got, e := divs.Parse(s); len(got) != 0 || e != api.EFORM {
			t.Errorf("Parse(%.100q): %.200q %d", s, got, e)
		}
	}
}

func TestFind(t *testing.T) {
	l := []api.Divert{div("/b", "/1"), div("/a", "/2"), div("/b", "/3"), {}}
	for p, want := range map[string]int{"/b": 0, "/a": 1, "": 3, "/1": -1, "/": -1, "/A": -1, "b": -1} {
		if got := divs.Find(l, p); got != want {
			t.Errorf("Find(%q): %d, want %d", p, got, want)
		}
	}
	if got := divs.Find(nil, ""); got != -1 {
		t.Errorf("Find in nothing: %d", got)
	}
}

func TestPut(t *testing.T) {
	x := div("/c", "/x", "x")
	d := diverted
	for _, c := range []struct{ l, want []api.Divert }{
		{nil, []api.Divert{x}},
		{d("/d"), append([]api.Divert{x}, d("/d")...)},
		{d("/a"), append(d("/a"), x)},
		{d("/a", "/d"), slices.Concat(d("/a"), []api.Divert{x}, d("/d"))},
		{d("/a", "/c", "/d"), slices.Concat(d("/a"), []api.Divert{x}, d("/d"))},
		{d("/c"), []api.Divert{x}},
		{d("/c", "/c"), append([]api.Divert{x}, d("/c")...)},
		// A list that does not rise.
		{d("/d", "/c"), append(d("/d"), x)},
		{d("/b", "/e", "/a", "/d"), slices.Concat(d("/b"), []api.Divert{x}, d("/e", "/a", "/d"))},
		// Neither limits nor forms are asked for.
		{slices.Repeat(d("/b"), 100), append(slices.Repeat(d("/b"), 100), x)},
		{make([]api.Divert, 2), append(make([]api.Divert, 2), x)},
	} {
		if got := divs.Put(c.l, x); !slices.Equal(got, c.want) {
			t.Errorf("Put(%q): %q, want %q", c.l, got, c.want)
		}
	}
	if got := divs.Put(d("/a"), api.Divert{}); !slices.Equal(got, append(make([]api.Divert, 1), d("/a")...)) {
		t.Errorf("Put of nothing: %q", got)
	}
}

func TestDrop(t *testing.T) {
	l := []api.Divert{div("/b", "/1"), div("/a", "/2"), div("/b", "/3"), div("/c", "/4")}
	for _, c := range []struct {
		p    string
		want []api.Divert
	}{
		{"/b", []api.Divert{l[1], l[3]}}, {"/a", []api.Divert{l[0], l[2], l[3]}}, {"/c", l[:3]}, {"/d", l}, {"/1", l}, {"", l},
	} {
		if got := divs.Drop(l, c.p); !slices.Equal(got, c.want) {
			t.Errorf("Drop(%q): %q, want %q", c.p, got, c.want)
		}
	}
	if got := divs.Drop(slices.Repeat(l[:1], 3), "/b"); len(got) != 0 {
		t.Errorf("Drop of all: %q", got)
	}
	if got := divs.Drop(nil, ""); len(got) != 0 {
		t.Errorf("Drop from nothing: %q", got)
	}
}

// Arguments stay as they are, with what lies behind their ends (rule 4).
func TestArgumentsStay(t *testing.T) {
	l := many(5)
	for _, part := range [][]api.Divert{l[:0], l[:2], l} {
		divs.Put(part, div("/a0005", "/x"))
		divs.Put(part, div("/a000", "/x"))
		divs.Put(part, div("/z", "/x"))
		divs.Drop(part, "/a000")
		divs.Drop(part, "/x")
		divs.Print(part)
	}
	if !slices.Equal(l, many(5)) {
		t.Errorf("changed: %q", l)
	}
}

// P9.3

func TestTrue(t *testing.T) {
	l := []api.Divert{div("/a", "/b", "x"), div("/c", "/d"), div("/a", "/e"), div("/f", "/g", "y"), div("/f", "/h", "x")}
	for _, c := range []struct{ p, by, want string }{
		{"/a", "", "/b"},
		{"/a", "y", "/b"},
		{"/a", "x", "/a"},
		{"/c", "", "/d"},
		{"/c", "x", "/d"},
		{"/f", "x", "/g"}, // the first one holds
		{"/f", "y", "/f"},
		{"/b", "", "/b"},
		{"/b", "x", "/b"},
		{"/z", "", "/z"},
		{"", "", ""},
		{"no path", "x", "no path"},
	} {
		if got := divs.True(l, c.p, c.by); got != c.want {
			t.Errorf("True(%q, %q): %q, want %q", c.p, c.by, got, c.want)
		}
	}
	if got := divs.True(nil, "/a", "x"); got != "/a" {
		t.Errorf("True in nothing: %q", got)
	}
	if got := divs.True([]api.Divert{{To: "/b"}}, "", ""); got != "/b" {
		t.Errorf("True of the empty path: %q", got)
	}
}

func TestFrom(t *testing.T) {
	l := []api.Divert{div("/a", "/b", "x"), div("/c", "/d"), div("/e", "/b")}
	for p, want := range map[string]string{"/b": "/a", "/d": "/c", "/a": "/a", "/e": "/e", "/z": "/z", "": ""} {
		if got := divs.From(l, p); got != want {
			t.Errorf("From(%q): %q, want %q", p, got, want)
		}
	}
	if got := divs.From(nil, "/a"); got != "/a" {
		t.Errorf("From in nothing: %q", got)
	}
}

// P9.4

var somePaths = []string{"/a", "/b", "/c", "/a/b", "/d.x", "/e", "/f", "/g-h"}

// drawn is diversions that Check accepts.
func drawn(r *rand.Rand) []api.Divert {
	paths := slices.Clone(somePaths)
	r.Shuffle(len(paths), func(i, j int) { paths[i], paths[j] = paths[j], paths[i] })
	var l []api.Divert
	for range r.IntN(len(paths)/2 + 1) {
		l = append(l, div(paths[0], paths[1], []string{"", "x", "y.z"}[r.IntN(3)]))
		paths = paths[2:]
	}
	slices.SortFunc(l, func(a, b api.Divert) int { return strings.Compare(a.Path, b.Path) })
	return l
}

func TestPrintedIsParsed(t *testing.T) {
	r := rand.New(rand.NewPCG(9, 4))
	for range 5000 {
		l := drawn(r)
		s, e := divs.Print(l)
		if e != api.OK {
			t.Fatalf("Print(%q): %d", l, e)
		}
		if got, e := divs.Parse(s); !slices.Equal(got, l) || e != api.OK {
			t.Fatalf("Parse(%q): %q %d, want %q", s, got, e, l)
		}
	}
	s, _ := divs.Print(many(64))
	if got, e := divs.Parse(s); !slices.Equal(got, many(64)) || e != api.OK {
		t.Errorf("Parse of 64: %q %d", got, e)
	}
}

// What is one byte beside a text is either what other diversions print, or not
// parsed.
func TestParsedIsPrinted(t *testing.T) {
	count := 0
	for _, c := range printed {
		near(c.s, func(s string) {
			l, e := divs.Parse(s)
			if e != api.OK {
				if e != api.EFORM || len(l) != 0 {
					t.Fatalf("Parse(%q): %q %d", s, l, e)
				}
				return
			}
			count++
			if again, e := divs.Print(l); again != s || e != api.OK {
				t.Fatalf("Print(%q): %q %d, want %q", l, again, e, s)
			}
		})
	}
	if count < 300 {
		t.Errorf("only %d texts", count)
	}
}

// P9.5

func TestPlacesDiffer(t *testing.T) {
	r := rand.New(rand.NewPCG(9, 5))
	for range 5000 {
		l := drawn(r)
		at := map[string]string{}
		for _, p := range somePaths {
			if slices.ContainsFunc(l, func(x api.Divert) bool { return x.To == p }) {
				continue
			}
			place := divs.True(l, p, "")
			if other, taken := at[place]; taken {
				t.Fatalf("%q: %s and %s are both at %s", l, p, other, place)
			}
			at[place] = p
			if got := divs.From(l, place); got != p {
				t.Fatalf("%q: From(%s) is %s, of %s", l, place, got, p)
			}
		}
	}
}

package lists_test

import (
	"fmt"
	"math/rand/v2"
	"regexp"
	"slices"
	"strings"
	"testing"

	"cellarer/api"
	"cellarer/lists"
)

var (
	longestPath = "/" + strings.Repeat("a", 199)
	longestName = strings.Repeat("a", 60)
)

// near gives texts that differ from one by one byte: one that is lacking, one
// in another's place, or one more.
func near(s string, f func(string)) {
	const others = " \n\t\x00\x7f\xffaAb0/#-+.,"
	for i := range len(s) + 1 {
		for j := range len(others) {
			f(s[:i] + others[j:j+1] + s[i:])
		}
		if i == len(s) {
			return
		}
		f(s[:i] + s[i+1:])
		for j := range len(others) {
			f(s[:i] + others[j:j+1] + s[i+1:])
		}
	}
}

func list(name string, paths ...string) api.List { return api.List{Name: name, Paths: paths} }

func manyPaths(n int) []string {
	var out []string
	for i := range n {
		out = append(out, fmt.Sprintf("/a%03d", i))
	}
	return out
}

func many(n int) []api.List {
	var out []api.List
	for i := range n {
		out = append(out, list(fmt.Sprintf("a%03d", i), "/a", "/b"))
	}
	return out
}

// same takes lists of paths that are nil and empty as equal.
func same(a, b api.List) bool { return a.Name == b.Name && slices.Equal(a.Paths, b.Paths) }

func allSame(a, b []api.List) bool { return slices.EqualFunc(a, b, same) }

// P13.1

var right = []api.List{
	list("a"), {Name: "a", Paths: []string{}}, list("a", "/"), list("0", "/", "/A", "/a", "/a+", "/a/b", "/b"), list("a-b.c+d", "/#"),
	list(longestName, longestPath), list("a", manyPaths(64)...),
}

var wrong = []api.List{
	{}, list(""), list("A"), list("-a"), list("a b"), list("a_b"), list("/a"), list(longestName + "a"), list("a\n"), list("", "/a"),
	list("a", ""), list("a", "a"), list("a", "/a/"), list("a", "//"), list("a", "/."), list("a", "/a/.."), list("a", "/a b"), list("a", "/a\n"), list("a", longestPath+"a"),
	list("a", "/a", "/a"), list("a", "/b", "/a"), list("a", "/a", "/c", "/b"), list("a", "/a", "/b", "/b"), list("a", "/a", "b"), list("a", "", "/a"),
	list("a", manyPaths(65)...), list("a", make([]string, 64)...),
}

func TestRight(t *testing.T) {
	for _, x := range right {
		if !lists.Right(x) {
			t.Errorf("Right(%v): false", x)
		}
		if _, e := lists.Print(x); e != api.OK {
			t.Errorf("Print(%v): %d", x, e)
		}
	}
	for _, x := range wrong {
		if lists.Right(x) {
			t.Errorf("Right(%v): true", x)
		}
		if s, e := lists.Print(x); s != "" || e != api.EARG {
			t.Errorf("Print(%v): %q %d", x, s, e)
		}
	}
}

func TestCheck(t *testing.T) {
	for _, c := range []struct {
		l    []api.List
		want api.Errno
	}{
		{nil, api.OK},
		{[]api.List{}, api.OK},
		{[]api.List{list("a", "/a"), list("a+", "/a"), list("a.b"), list("b", "/")}, api.OK},
		{[]api.List{list("a"), list("a")}, api.EARG},
		{[]api.List{list("a", "/a"), list("a", "/b")}, api.EARG},
		{[]api.List{list("b"), list("a")}, api.EARG},
		{[]api.List{list("a"), list("c"), list("b")}, api.EARG},
		{[]api.List{list("a"), list("b"), list("b")}, api.EARG},
		{many(64), api.OK},
		{many(65), api.EFULL},
		{make([]api.List, 65), api.EFULL},
		{make([]api.List, 64), api.EARG},
	} {
		if got := lists.Check(c.l); got != c.want {
			t.Errorf("Check(%v): %d, want %d", c.l, got, c.want)
		}
	}
	for _, x := range right {
		if got := lists.Check([]api.List{x}); got != api.OK {
			t.Errorf("Check with %v: %d", x, got)
		}
	}
	for _, x := range wrong {
		for _, l := range [][]api.List{{x}, {list("0"), x}, {x, list("z")}} {
			if got := lists.Check(l); got != api.EARG {
				t.Errorf("Check(%v): %d", l, got)
			}
		}
	}
}

// printed are lists, and what is printed of them.
var printed = []struct {
	x api.List
	s string
}{
	{list("a"), ""},
	{list("a", "/b"), "/b\n"},
	{list("b-c", "/", "/a", "/a+", "/a/b"), "/\n/a\n/a+\n/a/b\n"},
	{list(longestName, longestPath), longestPath + "\n"},
}

func TestPrintAndParse(t *testing.T) {
	for _, c := range printed {
		if got, e := lists.Print(c.x); got != c.s || e != api.OK {
			t.Errorf("Print(%v): %q %d, want %q", c.x, got, e, c.s)
		}
		if got, e := lists.Parse(c.x.Name, c.s); !same(got, c.x) || e != api.OK {
			t.Errorf("Parse(%q, %q): %v %d, want %v", c.x.Name, c.s, got, e, c.x)
		}
	}
}

func TestParseRefuses(t *testing.T) {
	refused := func(name, s string) {
		if got, e := lists.Parse(name, s); got.Name != "" || len(got.Paths) != 0 || e != api.EFORM {
			t.Errorf("Parse(%q, %.100q): %v %d", name, s, got, e)
		}
	}
	for _, name := range []string{"", "A", "-", "a b", "/a", "a\n", "a_b", longestName + "a"} {
		refused(name, "")
		refused(name, "/a\n")
	}
	all, _ := lists.Print(list("a", manyPaths(64)...))
	for _, s := range []string{
		"\n", " \n", "/a", "/a\n\n", "\n/a\n", "/a\r\n", " /a\n", "/a \n", "/a /b\n", "a\n", "/a/\n", "//\n", "/.\n", "/a/..\n", "/\x7f\n", longestPath + "a\n",
		"/a\n/a\n", "/b\n/a\n", "/a\n\n/b\n", "/a\n/b", "/a\n/c\n/b\n", "/a/b\n/a\n",
		all + "/b\n", "/\n" + all, strings.Repeat("/a\n", 100000), strings.Repeat("\n", 100000), strings.Repeat("/a", 100000) + "\n",
	} {
		refused("a", s)
	}
}

// P13.2

func TestFind(t *testing.T) {
	l := []api.List{list("b", "/1"), list("a"), list("b", "/2"), list("")}
	for name, want := range map[string]int{"b": 0, "a": 1, "": 3, "c": -1, "/1": -1, "B": -1} {
		if got := lists.Find(l, name); got != want {
			t.Errorf("Find(%q): %d, want %d", name, got, want)
		}
	}
	if got := lists.Find(nil, ""); got != -1 {
		t.Errorf("Find in nothing: %d", got)
	}
}

// of is lists of names, each with another path.
func of(names ...string) []api.List {
	var out []api.List
	for i, name := range names {
		out = append(out, list(name, fmt.Sprintf("/%d", i)))
	}
	return out
}

func TestPut(t *testing.T) {
	x := list("c", "/x")
	for _, c := range []struct {
		names []string
		at    int // where it comes to stand, and whether in another's place
		other bool
	}{
		{nil, 0, false},
		{[]string{"d"}, 0, false},
		{[]string{"a"}, 1, false},
		{[]string{"a", "d"}, 1, false},
		{[]string{"a", "c", "d"}, 1, true},
		{[]string{"c", "c"}, 0, true},
		// Lists that do not rise.
		{[]string{"d", "c"}, 1, true},
		{[]string{"b", "e", "a", "d"}, 1, false},
		// Neither limits nor forms are asked for.
		{slices.Repeat([]string{"b"}, 100), 100, false},
		{[]string{"", ""}, 2, false},
	} {
		l := of(c.names...)
		rest := c.at
		if c.other {
			rest++
		}
		want := slices.Concat(l[:c.at], []api.List{x}, l[rest:])
		if got := lists.Put(l, x); !allSame(got, want) {
			t.Errorf("Put(%v): %v, want %v", l, got, want)
		}
	}
}

func TestDrop(t *testing.T) {
	l := of("b", "a", "b", "c")
	for _, c := range []struct {
		name string
		want []api.List
	}{
		{"b", []api.List{l[1], l[3]}}, {"a", []api.List{l[0], l[2], l[3]}}, {"c", l[:3]}, {"d", l}, {"", l}, {"/0", l},
	} {
		if got := lists.Drop(l, c.name); !allSame(got, c.want) {
			t.Errorf("Drop(%q): %v, want %v", c.name, got, c.want)
		}
	}
	if got := lists.Drop(of("a", "a"), "a"); len(got) != 0 {
		t.Errorf("Drop of all: %v", got)
	}
	if got := lists.Drop(nil, ""); len(got) != 0 {
		t.Errorf("Drop from nothing: %v", got)
	}
}

func TestOwners(t *testing.T) {
	l := []api.List{list("b", "/a", "/b"), list("a", "/b", "/c"), list("c"), list("b", "/c", "/c", "/a"), list("", "")}
	for p, want := range map[string][]string{
		"/a": {"b", "b"}, "/b": {"b", "a"}, "/c": {"a", "b"}, "": {""}, "/": nil, "a": nil, "/a/": nil, "/A": nil,
	} {
		if got := lists.Owners(l, p); !slices.Equal(got, want) {
			t.Errorf("Owners of %q: %q, want %q", p, got, want)
		}
	}
	if got := lists.Owners(nil, "/a"); len(got) != 0 {
		t.Errorf("Owners of nothing: %q", got)
	}
}

func TestLose(t *testing.T) {
	l := []api.List{list("b", "/a", "/b", "/c"), list("a", "/a"), list("b", "/a", "/b"), list("c", "/z", "/a", "/z")}
	changed := func(i int, paths ...string) []api.List {
		out := slices.Clone(l)
		out[i].Paths = paths
		return out
	}
	for _, c := range []struct {
		name  string
		paths []string
		want  []api.List
	}{
		{"b", []string{"/b"}, changed(0, "/a", "/c")},
		{"b", []string{"/c", "/a"}, changed(0, "/b")},
		{"b", []string{"/c", "/a", "/b", "/a"}, changed(0)},
		{"b", []string{"/d", "/c", ""}, changed(0, "/a", "/b")},
		{"a", []string{"/a"}, changed(1)},
		{"c", []string{"/z"}, changed(3, "/a")},
		{"b", nil, l}, {"b", []string{}, l}, {"b", []string{"/", "/d", "b", "/a/"}, l},
		{"d", []string{"/a"}, l}, {"", []string{"/a"}, l}, {"/a", []string{"/a"}, l},
	} {
		if got := lists.Lose(l, c.name, c.paths); !allSame(got, c.want) {
			t.Errorf("Lose(%q, %q): %v, want %v", c.name, c.paths, got, c.want)
		}
	}
	if got := lists.Lose(nil, "a", []string{"/a"}); len(got) != 0 {
		t.Errorf("Lose of nothing: %v", got)
	}
	if got := lists.Lose([]api.List{list("a")}, "a", []string{"/a"}); !allSame(got, []api.List{list("a")}) {
		t.Errorf("Lose of a list of nothing: %v", got)
	}
}

// Arguments stay as they are, with what lies behind their ends (rule 4).
func TestArgumentsStay(t *testing.T) {
	l := many(5)
	lost := []string{"/a", "/c"}
	for _, part := range [][]api.List{l[:0], l[:2], l} {
		lists.Put(part, list("a0005", "/z"))
		lists.Put(part, list("a000", "/z"))
		lists.Put(part, list("z", "/z"))
		lists.Drop(part, "a000")
		lists.Drop(part, "x")
		lists.Lose(part, "a000", lost[:1])
		lists.Lose(part, "a001", lost)
		lists.Lose(part, "x", lost)
		lists.Owners(part, "/a")
		lists.Check(part)
	}
	if !allSame(l, many(5)) || !slices.Equal(lost, []string{"/a", "/c"}) {
		t.Errorf("changed: %v %v", l, lost)
	}
}

// P13.3

func TestPrintedIsParsed(t *testing.T) {
	r := rand.New(rand.NewPCG(13, 3))
	for range 5000 {
		x := list([]string{"a", "b+", longestName}[r.IntN(3)])
		for _, p := range []string{"/", "/#", "/a", "/a/b", "/b", "/c0", longestPath[:r.IntN(10)+190]} {
			if n := len(x.Paths); r.IntN(2) > 0 && (n == 0 || x.Paths[n-1] < p) {
				x.Paths = append(x.Paths, p)
			}
		}
		s, e := lists.Print(x)
		if e != api.OK {
			t.Fatalf("Print(%v): %d", x, e)
		}
		if got, e := lists.Parse(x.Name, s); !same(got, x) || e != api.OK {
			t.Fatalf("Parse(%q): %v %d, want %v", s, got, e, x)
		}
	}
	all := list("a", manyPaths(64)...)
	s, _ := lists.Print(all)
	if got, e := lists.Parse("a", s); !same(got, all) || e != api.OK {
		t.Errorf("Parse of 64: %v %d", got, e)
	}
}

// forms are the texts of lists of short paths, but for their order.
var (
	forms  = regexp.MustCompile(`^(/([!-.0-~]+(/[!-.0-~]+)*)?\n)*$`)
	dotted = regexp.MustCompile(`(?m)/\.\.?(/|$)`)
)

// What is one byte beside a text is either what another list prints, or not
// parsed.
func TestParsedIsPrinted(t *testing.T) {
	count := 0
	for _, s := range []string{"", "/\n", "/a\n", "/\n/a\n/a/b\n/b\n"} {
		near(s, func(s string) {
			lines := strings.SplitAfter(s, "\n")
			rises := slices.IsSorted(lines[:len(lines)-1]) && len(slices.Compact(slices.Clone(lines))) == len(lines)
			x, e := lists.Parse("a", s)
			if want := forms.MatchString(s) && !dotted.MatchString(s) && rises; want != (e == api.OK) || !want && (e != api.EFORM || !same(x, api.List{})) {
				t.Fatalf("Parse(%q): %v %d", s, x, e)
			}
			if e != api.OK {
				return
			}
			count++
			if again, e := lists.Print(x); again != s || e != api.OK {
				t.Fatalf("Print(%v): %q %d, want %q", x, again, e, s)
			}
		})
	}
	if count < 50 {
		t.Errorf("only %d texts", count)
	}
}

package alts_test

import (
	"fmt"
	"math"
	"math/rand/v2"
	"reflect"
	"slices"
	"strings"
	"testing"

	"cellarer/alts"
	"cellarer/api"
)

var (
	longest     = strings.Repeat("a", 60)
	longestPath = "/" + strings.Repeat("a", 199)
)

// near gives texts that differ from one by one byte: one that is lacking, one
// in another's place, or one more.
func near(s string, f func(string)) {
	const others = " \n\t\x00\x7f\xffaAbm1590/:-+.,"
	for i := range len(s) + 1 {
		for j := range len(others) {
			f(s[:i] + others[j:j+1] + s[i:])
		}
		if i == len(s) {
			return
		}
		f(s[:i] + s[i+1:])
		for j := range len(others) {
			f(s[:i] + others[j:j+1] + s[i+1:])
		}
		f(s[:i] + string([]byte{s[i] ^ 0x20}) + s[i+1:]) // of the other case
	}
}

// plain takes lists that are empty as nil.
func plain(x api.Alt) api.Alt {
	if len(x.Slaves) == 0 {
		x.Slaves = nil
	}
	x.Choices = append([]api.Choice(nil), x.Choices...)
	for i, c := range x.Choices {
		if len(c.Slaves) == 0 {
			x.Choices[i].Slaves = nil
		}
	}
	return x
}

func same(a, b api.Alt) bool { return reflect.DeepEqual(plain(a), plain(b)) }

func sameAll(a, b []api.Alt) bool { return slices.EqualFunc(a, b, same) }

func choice(p string, prio int, slaves ...string) api.Choice {
	return api.Choice{Path: p, Prio: prio, Slaves: slaves}
}

// slaves are named, and their links are in /l.
func slaves(names ...string) []api.Slave {
	var out []api.Slave
	for _, name := range names {
		out = append(out, api.Slave{Name: name, Link: "/l/" + name})
	}
	return out
}

// alt is an alternative without slaves, that is not manual.
func alt(name string, choices ...api.Choice) api.Alt {
	x := api.Alt{Name: name, Link: "/l/" + name, Choices: choices}
	if best := alts.Best(choices); 0 <= best && best < len(choices) {
		x.Cur = choices[best].Path
	}
	return x
}

// named is alternatives of one choice each.
func named(names ...string) []api.Alt {
	var out []api.Alt
	for _, name := range names {
		out = append(out, alt(name, choice("/a", 1)))
	}
	return out
}

// with is an alternative of two slaves and three choices, with a change.
func with(change func(*api.Alt)) api.Alt {
	x := alt("vi", choice("/a", 5, "/a1", ""), choice("/b", 9, "/b1", "/b2"), choice("/c", -1, "", ""))
	x.Slaves = slaves("m", "x")
	change(&x)
	return x
}

func whole() api.Alt { return with(func(*api.Alt) {}) }

// numbered is n texts that rise.
func numbered(form string, n int) []string {
	var out []string
	for i := range n {
		out = append(out, fmt.Sprintf(form, i))
	}
	return out
}

// wide is an alternative of n slaves and m choices, each with a path for each
// slave.
func wide(n, m int) api.Alt {
	x := api.Alt{Name: "vi", Link: "/l/vi", Slaves: slaves(numbered("s%02d", n)...)}
	for i := range m {
		x.Choices = append(x.Choices, choice(fmt.Sprintf("/c%02d", i), i, numbered(fmt.Sprintf("/c%02d/s%%02d", i), n)...))
	}
	if m > 0 {
		x.Cur = x.Choices[m-1].Path
	}
	return x
}

// P11.1

func TestBest(t *testing.T) {
	for _, c := range []struct {
		l    []api.Choice
		want int
	}{
		{nil, -1},
		{[]api.Choice{}, -1},
		{[]api.Choice{choice("/a", -5)}, 0},
		{[]api.Choice{{}}, 0},
		{[]api.Choice{choice("/a", 5), choice("/b", 5), choice("/c", 1)}, 0},
		{[]api.Choice{choice("/a", 5), choice("/b", 9)}, 1},
		{[]api.Choice{choice("/a", -5), choice("/b", -9), choice("/c", -4)}, 2},
		{[]api.Choice{choice("/c", 1), choice("/b", 5), choice("/a", 5)}, 2},
		{[]api.Choice{choice("/a", 1), choice("/c", 5), choice("/b", 5), choice("/d", 5)}, 2},
		{[]api.Choice{choice("/a", 5), choice("/a", 5), choice("/a", 5)}, 0},
		{[]api.Choice{choice("/b", 5), choice("/a", 5), choice("/a", 5, "/x")}, 1},
		{[]api.Choice{choice("/a", math.MinInt), choice("/b", math.MaxInt)}, 1},
		{[]api.Choice{choice("/b", math.MaxInt), choice("/a", math.MinInt)}, 0},
		{[]api.Choice{choice("/b", math.MinInt), choice("/a", math.MinInt)}, 1},
		{[]api.Choice{choice("/\xff", 0), choice("/a", 0), choice("/B", 0), choice("", 0)}, 3},
	} {
		if got := alts.Best(c.l); got != c.want {
			t.Errorf("Best(%v): %d, want %d", c.l, got, c.want)
		}
	}
}

func rightAlts() []api.Alt {
	return []api.Alt{
		whole(),
		alt("a", choice("/a", 0)),
		alt("0.b+c-", choice("/a", math.MinInt32), choice("/b", math.MaxInt32)),
		alt("a", choice("/a", 5), choice("/b", 5)),
		with(func(x *api.Alt) { x.Name = longest }),
		with(func(x *api.Alt) { x.Link = longestPath }),
		with(func(x *api.Alt) { x.Link = "/l/m/n" }),
		with(func(x *api.Alt) { x.Manual = true }),
		with(func(x *api.Alt) { x.Manual, x.Cur = true, "/a" }),
		with(func(x *api.Alt) { x.Manual, x.Cur = true, "/c" }),
		with(func(x *api.Alt) { x.Choices[0].Prio, x.Cur = 9, "/a" }),
		with(func(x *api.Alt) { x.Slaves[0].Name = "0" }),
		with(func(x *api.Alt) { x.Slaves[0].Name = longest }),
		with(func(x *api.Alt) { x.Slaves[0].Link = "/b" }), // a link may be what a choice is
		with(func(x *api.Alt) { x.Link = "/a" }),
		with(func(x *api.Alt) { x.Choices[0].Slaves = []string{"/b1", "/b1"} }),
		with(func(x *api.Alt) { x.Choices[0].Slaves = []string{longestPath, "/l/m"} }),
		with(func(x *api.Alt) { x.Choices[2].Path = "/z" + longestPath[2:] }),
		wide(64, 64), wide(0, 64), wide(64, 1),
	}
}

func wrongAlts() []api.Alt {
	out := []api.Alt{{}}
	add := func(change func(*api.Alt)) { out = append(out, with(change)) }
	for _, name := range []string{"", "A", "-", "a b", "/a", "a\n", longest + "a"} {
		add(func(x *api.Alt) { x.Name = name })
		add(func(x *api.Alt) { x.Slaves[0].Name = name })
		add(func(x *api.Alt) { x.Slaves = slaves("m", name) })
	}
	for _, p := range []string{"", "/", "a", "/a/", "//a", "/a/..", "/a b", "/a\n", "/ä", longestPath + "a"} {
		add(func(x *api.Alt) { x.Link = p })
		add(func(x *api.Alt) { x.Slaves[0].Link = p })
		add(func(x *api.Alt) { x.Slaves[1].Link = p })
		add(func(x *api.Alt) { x.Choices[0].Path, x.Manual, x.Cur = p, true, p })
		add(func(x *api.Alt) { x.Choices[0].Path = p })
		add(func(x *api.Alt) { x.Cur = p })
		add(func(x *api.Alt) { x.Manual, x.Cur = true, p })
		if p != "" {
			add(func(x *api.Alt) { x.Choices[0].Slaves[0] = p })
			add(func(x *api.Alt) { x.Choices[2].Slaves[1] = p })
		}
	}
	// Links and names that are there twice, or names that do not rise.
	add(func(x *api.Alt) { x.Slaves[0].Link = x.Link })
	add(func(x *api.Alt) { x.Slaves[1].Link = x.Link })
	add(func(x *api.Alt) { x.Slaves[1].Link = x.Slaves[0].Link })
	add(func(x *api.Alt) { x.Slaves[0].Name = "x" })
	add(func(x *api.Alt) { x.Slaves[0].Name = "y" })
	add(func(x *api.Alt) { x.Name = "m" })
	add(func(x *api.Alt) { x.Name = "x" })
	// Too many, or too few.
	out = append(out, wide(65, 1), wide(0, 65), wide(0, 0), wide(2, 0))
	add(func(x *api.Alt) { x.Slaves = nil })
	add(func(x *api.Alt) { x.Slaves = x.Slaves[:1] })
	add(func(x *api.Alt) { x.Slaves = slaves("m", "x", "y") })
	add(func(x *api.Alt) { x.Choices[0].Slaves = nil })
	add(func(x *api.Alt) { x.Choices[0].Slaves = []string{"/a1"} })
	add(func(x *api.Alt) { x.Choices[2].Slaves = []string{"", "", ""} })
	// Choices.
	for _, prio := range []int{math.MinInt32 - 1, math.MaxInt32 + 1, math.MinInt, math.MaxInt} {
		add(func(x *api.Alt) { x.Choices[0].Prio, x.Manual = prio, true })
		add(func(x *api.Alt) { x.Choices[2].Prio, x.Manual = prio, true })
		out = append(out, alt("a", choice("/a", prio)))
	}
	add(func(x *api.Alt) { x.Choices[0].Path = "/b" })
	add(func(x *api.Alt) { x.Choices[0].Path = "/bb" })
	add(func(x *api.Alt) { x.Choices[2].Path = "/b" })
	add(func(x *api.Alt) { x.Choices[2].Path, x.Manual = "/0", true })
	// Cur.
	add(func(x *api.Alt) { x.Cur = "/a" })
	add(func(x *api.Alt) { x.Cur = "/c" })
	add(func(x *api.Alt) { x.Cur = "/d" })
	add(func(x *api.Alt) { x.Cur = "/l/vi" })
	add(func(x *api.Alt) { x.Manual, x.Cur = true, "/d" })
	add(func(x *api.Alt) { x.Manual, x.Cur = true, "/a1" })
	add(func(x *api.Alt) { x.Choices[0].Prio = 9 })
	add(func(x *api.Alt) { x.Choices[2].Prio = 10 })
	return out
}

func TestRight(t *testing.T) {
	for _, x := range rightAlts() {
		if !alts.Right(x) {
			t.Errorf("Right(%v): false", x)
		}
	}
	for _, x := range wrongAlts() {
		if alts.Right(x) {
			t.Errorf("Right(%v): true", x)
		}
		if s, e := alts.Print(x); s != "" || e != api.EARG {
			t.Errorf("Print(%v): %q %d", x, s, e)
		}
	}
}

func TestLinks(t *testing.T) {
	for _, c := range []struct {
		x    api.Alt
		want []string
	}{
		{api.Alt{}, []string{""}},
		{whole(), []string{"/l/vi", "/l/m", "/l/x"}},
		{api.Alt{Link: "/b", Slaves: []api.Slave{{Link: "/b"}, {Name: "x"}, {Link: "/a"}}}, []string{"/b", "/b", "", "/a"}},
	} {
		if got := alts.Links(c.x); !slices.Equal(got, c.want) {
			t.Errorf("Links(%v): %q, want %q", c.x, got, c.want)
		}
	}
}

func TestCheck(t *testing.T) {
	put := func(l []api.Alt, i int, change func(*api.Alt)) []api.Alt {
		change(&l[i])
		return l
	}
	// slave is an alternative with one slave.
	slave := func(name, slave, link string) api.Alt {
		x := alt(name, choice("/a", 1, ""))
		x.Slaves = []api.Slave{{Name: slave, Link: link}}
		return x
	}
	for _, c := range []struct {
		l    []api.Alt
		want api.Errno
	}{
		{nil, api.OK},
		{[]api.Alt{}, api.OK},
		{named("a"), api.OK},
		{named("0", "a", "a+", "a-", "aa", "b"), api.OK},
		{named("a", "a"), api.EARG},
		{named("b", "a"), api.EARG},
		{named("a", "c", "b"), api.EARG},
		{named(numbered("a%02d", 64)...), api.OK},
		{named(numbered("a%02d", 65)...), api.EFULL},
		{make([]api.Alt, 65), api.EFULL},
		{make([]api.Alt, 64), api.EARG},
		// A name or a link in two of them.
		{put(named("a", "b"), 1, func(x *api.Alt) { x.Link = "/l/a" }), api.EARG},
		{put(named("a", "b", "c"), 0, func(x *api.Alt) { x.Link = "/l/c" }), api.EARG},
		{put(named("a", "b"), 1, func(x *api.Alt) { x.Link = "/a" }), api.OK},
		{[]api.Alt{slave("a", "s", "/l/s"), slave("b", "t", "/l/t")}, api.OK},
		{[]api.Alt{slave("a", "s", "/l/s"), slave("b", "s", "/l/t")}, api.EARG},
		{[]api.Alt{slave("a", "s", "/l/s"), slave("b", "t", "/l/s")}, api.EARG},
		{[]api.Alt{slave("a", "b", "/l/s"), slave("b", "t", "/l/t")}, api.EARG},
		{[]api.Alt{slave("a", "s", "/l/s"), slave("b", "a", "/l/t")}, api.EARG},
		{[]api.Alt{slave("a", "s", "/l/b"), slave("b", "t", "/l/t")}, api.EARG},
		{[]api.Alt{slave("a", "s", "/l/s"), slave("b", "t", "/l/a")}, api.EARG},
		{[]api.Alt{slave("a", "s", "/l/s"), slave("b", "t", "/l/t"), slave("c", "s", "/l/u")}, api.EARG},
		// A name is no link, nor a link a name; what choices have is of no matter.
		{[]api.Alt{slave("a", "l", "/a"), slave("b", "t", "/b")}, api.OK},
	} {
		if got := alts.Check(c.l); got != c.want {
			t.Errorf("Check(%v): %d, want %d", c.l, got, c.want)
		}
	}
	for _, x := range rightAlts() {
		if got := alts.Check([]api.Alt{x}); got != api.OK {
			t.Errorf("Check with %v: %d", x, got)
		}
	}
	for _, x := range wrongAlts() {
		for _, l := range [][]api.Alt{{x}, append(named("+"), x), append(named("0"), x), append([]api.Alt{x}, named("zz")...)} {
			if got := alts.Check(l); got != api.EARG {
				t.Errorf("Check(%v): %d", l, got)
			}
		}
	}
}

// P11.2

// printed are alternatives, and what is printed of them.
var printed = []struct {
	x api.Alt
	s string
}{
	{alt("vi", choice("/a", 0)), "auto\n/l/vi\n\n/a\n0\n\n"},
	{alt("vi", choice("/a", -5), choice("/b", 10)), "auto\n/l/vi\n\n/a\n-5\n/b\n10\n\n"},
	{whole(), "auto\n/l/vi\nm\n/l/m\nx\n/l/x\n\n/a\n5\n/a1\n\n/b\n9\n/b1\n/b2\n/c\n-1\n\n\n\n"},
	{with(func(x *api.Alt) { x.Manual = true }), "manual /b\n/l/vi\nm\n/l/m\nx\n/l/x\n\n/a\n5\n/a1\n\n/b\n9\n/b1\n/b2\n/c\n-1\n\n\n\n"},
	{
		api.Alt{Name: "vi", Link: "/v", Manual: true, Cur: "/a", Slaves: slaves("m"), Choices: []api.Choice{choice("/a", math.MinInt32, ""), choice("/b", math.MaxInt32, "/m")}},
		"manual /a\n/v\nm\n/l/m\n\n/a\n-2147483648\n\n/b\n2147483647\n/m\n\n",
	},
}

func TestPrint(t *testing.T) {
	for _, c := range printed {
		if got, e := alts.Print(c.x); got != c.s || e != api.OK {
			t.Errorf("Print(%v): %q %d, want %q", c.x, got, e, c.s)
		}
	}
}

func TestParse(t *testing.T) {
	for _, c := range printed {
		if got, e := alts.Parse("vi", c.s); !same(got, c.x) || e != api.OK {
			t.Errorf("Parse(vi, %q): %v %d, want %v", c.s, got, e, c.x)
		}
	}
	// The text doesn't hold the name.
	want := alt("other", choice("/a", 0))
	want.Link = "/l/vi"
	if got, e := alts.Parse("other", "auto\n/l/vi\n\n/a\n0\n\n"); !same(got, want) || e != api.OK {
		t.Errorf("Parse(other): %v %d", got, e)
	}
	for _, name := range []string{"", "A", "a b", "/a", longest + "a", "m"} {
		if got, e := alts.Parse(name, printed[2].s); !same(got, api.Alt{}) || e != api.EFORM {
			t.Errorf("Parse(%q): %v %d", name, got, e)
		}
	}
}

func TestParseRefuses(t *testing.T) {
	const (
		one  = "auto\n/l/vi\n\n/a\n0\n\n"
		two  = "auto\n/l/vi\nm\n/l/m\nx\n/l/x\n\n"
		tail = "/a\n0\n\n"
	)
	for _, s := range []string{
		"", "\n", "a", "auto\n", "auto\n/l/vi\n", "auto\n/l/vi\n\n", "auto\n/l/vi\n\n\n", "auto\n/l/vi\n\n/a\n", "auto\n/l/vi\n\n/a\n0\n", one[:len(one)-1], one + "\n", one + "a\n", "\n" + one, one + one,
		strings.ReplaceAll(one, "\n", "\r\n"),
		// How it is set, and its link.
		"/l/vi\n\n" + tail, "Auto\n/l/vi\n\n" + tail, "auto \n/l/vi\n\n" + tail, "auto /a\n/l/vi\n\n" + tail, "manual\n/l/vi\n\n" + tail, "manual \n/l/vi\n\n" + tail,
		"manual  /a\n/l/vi\n\n" + tail, "manual /b\n/l/vi\n\n" + tail, "manual /a \n/l/vi\n\n" + tail, "manual a\n/l/vi\n\n" + tail, "manual\n/a\n/l/vi\n\n" + tail, "/a\n/l/vi\n\n" + tail,
		"auto\n\n\n" + tail, "auto\n/\n\n" + tail, "auto\nl\n\n" + tail, "auto\n/l/\n\n" + tail, "auto\n /l\n\n" + tail,
		// Slaves.
		"auto\n/l/vi\nm\n\n/a\n0\n\n\n", "auto\n/l/vi\nm\n/l/m\n/a\n0\n\n\n", "auto\n/l/vi\nm /l/m\n\n/a\n0\n\n\n", "auto\n/l/vi\n/l/m\nm\n\n/a\n0\n\n\n", "auto\n/l/vi\nM\n/l/m\n\n/a\n0\n\n\n",
		"auto\n/l/vi\nm\n/l/vi\n\n/a\n0\n\n\n", "auto\n/l/vi\nm\n/\n\n/a\n0\n\n\n", "auto\n/l/vi\nvi\n/l/m\n\n/a\n0\n\n\n",
		"auto\n/l/vi\nx\n/l/x\nm\n/l/m\n\n/a\n0\n\n\n\n", "auto\n/l/vi\nm\n/l/x\nm\n/l/m\n\n/a\n0\n\n\n\n", "auto\n/l/vi\nm\n/l/m\nx\n/l/m\n\n/a\n0\n\n\n\n",
		// Choices.
		two, two + "\n", two + "/a\n0\n\n", two + "/a\n0\n\n\n", two + "/a\n0\n\n\n\n\n", two + "/a\n0\n/a1\n\n", two + "/a\n0\n/a1\n/a2\n", two + "/a\n0\n/a1\n/a2\n/a3\n\n", two + "\n/a\n0\n\n\n\n",
		two + "/a\n0\na\n\n\n", two + "/a\n0\n\n/\n\n", two + "/a\n0\n-\n\n\n", two + "/a\n0\n \n\n\n",
		"auto\n/l/vi\n\n/a 0\n\n", "auto\n/l/vi\n\n0\n/a\n\n", "auto\n/l/vi\n\na\n0\n\n", "auto\n/l/vi\n\n/\n0\n\n", "auto\n/l/vi\n\n/a/\n0\n\n",
		"auto\n/l/vi\n\n/a\n00\n\n", "auto\n/l/vi\n\n/a\n+1\n\n", "auto\n/l/vi\n\n/a\n-0\n\n", "auto\n/l/vi\n\n/a\n01\n\n", "auto\n/l/vi\n\n/a\n 1\n\n", "auto\n/l/vi\n\n/a\n1.0\n\n", "auto\n/l/vi\n\n/a\n\n\n", "auto\n/l/vi\n\n/a\nx\n\n",
		"auto\n/l/vi\n\n/a\n2147483648\n\n", "auto\n/l/vi\n\n/a\n-2147483649\n\n", "auto\n/l/vi\n\n/a\n99999999999999999999\n\n",
		"auto\n/l/vi\n\n/b\n0\n/a\n0\n\n", "auto\n/l/vi\n\n/a\n0\n/a\n0\n\n", "auto\n/l/vi\n\n/a\n0\n\n/b\n0\n\n",
		"auto\n/l/vi\n\n" + strings.Join(numbered("/a%02d\n", 65), "0\n") + "0\n\n",
		"auto\n/l/vi\n" + strings.Join(numbered("s%[1]02d\n/s%[1]02d\n", 65), "") + "\n/a\n0\n" + strings.Repeat("\n", 66),
		strings.Repeat("\n", 300000), strings.Repeat("a\n", 300000), "auto\n/l\n" + strings.Repeat("a\n", 200000) + "\n" + strings.Repeat("b\n", 200001), strings.Repeat("a", 300000), "auto\n/l\n\n" + strings.Repeat("/a\n0\n", 200000) + "\n",
	} {
		if got, e := alts.Parse("vi", s); !same(got, api.Alt{}) || e != api.EFORM {
			t.Errorf("Parse(%.100q): %v %d", s, got, e)
		}
	}
}

// P11.3

func TestFind(t *testing.T) {
	l := named("b", "a", "b", "")
	for name, want := range map[string]int{"b": 0, "a": 1, "": 3, "c": -1, "A": -1, "/l/b": -1} {
		if got := alts.Find(l, name); got != want {
			t.Errorf("Find(%q): %d, want %d", name, got, want)
		}
	}
	if got := alts.Find(nil, ""); got != -1 {
		t.Errorf("Find in nothing: %d", got)
	}
	if got := alts.Find([]api.Alt{whole()}, "m"); got != -1 {
		t.Errorf("Find of a slave: %d", got)
	}
}

func TestChoice(t *testing.T) {
	x := api.Alt{Cur: "/c", Choices: []api.Choice{choice("/b", 1, "/s"), choice("/a", 2), choice("/b", 3), choice("", 4)}}
	for p, want := range map[string]int{"/b": 0, "/a": 1, "": 3, "/c": -1, "/s": -1, "/": -1} {
		if got := alts.Choice(x, p); got != want {
			t.Errorf("Choice(%q): %d, want %d", p, got, want)
		}
	}
	if got := alts.Choice(api.Alt{}, ""); got != -1 {
		t.Errorf("Choice of none: %d", got)
	}
}

func TestPut(t *testing.T) {
	x := alt("c", choice("/b", 2), choice("/c", 3))
	for _, c := range []struct {
		names []string
		at    int // where it comes to stand, and whether in another's place
		other bool
	}{
		{nil, 0, false},
		{[]string{"d"}, 0, false},
		{[]string{"a"}, 1, false},
		{[]string{"a", "d"}, 1, false},
		{[]string{"a", "c", "d"}, 1, true},
		{[]string{"c"}, 0, true},
		{[]string{"c", "c"}, 0, true},
		// A list that does not rise.
		{[]string{"d", "c"}, 1, true},
		{[]string{"b", "e", "a", "d"}, 1, false},
		// Neither limits nor forms are asked for.
		{slices.Repeat([]string{"b"}, 100), 100, false},
		{[]string{"", "Z"}, 2, false},
	} {
		l := named(c.names...)
		rest := c.at
		if c.other {
			rest++
		}
		want := slices.Concat(l[:c.at], []api.Alt{x}, l[rest:])
		if got := alts.Put(l, x); !sameAll(got, want) {
			t.Errorf("Put(%v): %v, want %v", l, got, want)
		}
	}
}

func TestDrop(t *testing.T) {
	l := named("b", "a", "b", "c")
	for _, c := range []struct {
		name string
		want []api.Alt
	}{
		{"b", named("a", "c")}, {"a", named("b", "b", "c")}, {"c", named("b", "a", "b")}, {"d", l}, {"", l},
	} {
		if got := alts.Drop(l, c.name); !sameAll(got, c.want) {
			t.Errorf("Drop(%q): %v, want %v", c.name, got, c.want)
		}
	}
	if got := alts.Drop(named("a", "a"), "a"); len(got) != 0 {
		t.Errorf("Drop of all: %v", got)
	}
	if got := alts.Drop(nil, ""); len(got) != 0 {
		t.Errorf("Drop from nothing: %v", got)
	}
}

// Arguments stay as they are, with what lies behind their ends (rule 4).
func TestArgumentsStay(t *testing.T) {
	l := append(named("a", "c", "d"), whole())
	for _, part := range [][]api.Alt{l[:0], l[:2], l} {
		alts.Put(part, alt("b", choice("/x", 1)))
		alts.Put(part, alt("c", choice("/x", 1)))
		alts.Put(part, alt("z", choice("/x", 1)))
		alts.Drop(part, "a")
		alts.Drop(part, "x")
		alts.Check(part)
	}
	if !sameAll(l, append(named("a", "c", "d"), whole())) {
		t.Errorf("changed: %v", l)
	}
	x := whole()
	spare := append(slices.Clone(x.Choices), choice("/spare", 0))
	x.Choices = spare[:3]
	pairs := append(slices.Clone(x.Slaves), slaves("zz")...)
	x.Slaves = pairs[:2]
	targets := []string{"", "/b2", "/spare"}
	x.Choices[0].Slaves = targets[:1]
	alts.Print(x)
	x.Choices[0].Slaves = targets[:2]
	alts.Print(x)
	alts.Right(x)
	alts.Links(x)
	if spare[3].Path != "/spare" || pairs[2].Name != "zz" || !slices.Equal(targets, []string{"", "/b2", "/spare"}) {
		t.Errorf("changed: %v %v %q", spare, pairs, targets)
	}
}

// P11.4

// drawn is a right alternative.
func drawn(r *rand.Rand) api.Alt {
	x := api.Alt{Name: "vi", Link: "/l/vi"}
	for _, name := range []string{"0", "a", "m", "x-y"} {
		if r.IntN(3) == 0 {
			x.Slaves = append(x.Slaves, slaves(name)...)
		}
	}
	for _, p := range []string{"/a", "/a/b", "/b", "/c", "/d"} {
		if r.IntN(2) == 0 && (p != "/d" || len(x.Choices) > 0) {
			continue
		}
		c := choice(p, r.IntN(5)-2)
		if r.IntN(5) == 0 {
			c.Prio = int(int32(r.Uint32()))
		}
		for range x.Slaves {
			c.Slaves = append(c.Slaves, []string{"", "/s", "/s/t"}[r.IntN(3)])
		}
		x.Choices = append(x.Choices, c)
	}
	x.Cur = x.Choices[alts.Best(x.Choices)].Path
	if r.IntN(2) == 0 {
		x.Manual, x.Cur = true, x.Choices[r.IntN(len(x.Choices))].Path
	}
	return x
}

func TestPrintedIsParsed(t *testing.T) {
	l := []api.Alt{wide(64, 64), wide(0, 64), wide(64, 1)}
	r := rand.New(rand.NewPCG(11, 4))
	for range 5000 {
		l = append(l, drawn(r))
	}
	for _, x := range l {
		s, e := alts.Print(x)
		if e != api.OK {
			t.Fatalf("Print(%v): %d", x, e)
		}
		if got, e := alts.Parse(x.Name, s); !same(got, x) || e != api.OK {
			t.Fatalf("Parse(%q): %v %d, want %v", s, got, e, x)
		}
	}
}

// What is one byte beside a text is either what another alternative prints, or
// not parsed.
func TestParsedIsPrinted(t *testing.T) {
	count := 0
	for _, c := range printed {
		near(c.s, func(s string) {
			x, e := alts.Parse("vi", s)
			if e != api.OK {
				if e != api.EFORM || !same(x, api.Alt{}) {
					t.Fatalf("Parse(%q): %v %d", s, x, e)
				}
				return
			}
			count++
			if again, e := alts.Print(x); again != s || e != api.OK {
				t.Fatalf("Print(%v): %q %d, want %q", x, again, e, s)
			}
		})
	}
	if count < 1000 {
		t.Errorf("only %d texts", count)
	}
}

// P11.5

func TestNoneExceedsTheBest(t *testing.T) {
	r := rand.New(rand.NewPCG(11, 5))
	for range 20000 {
		var l []api.Choice
		for range 1 + r.IntN(6) {
			l = append(l, choice([]string{"/a", "/b", "/c", ""}[r.IntN(4)], r.IntN(3)-1))
		}
		best := alts.Best(l)
		if best < 0 || best >= len(l) {
			t.Fatalf("Best(%v): %d", l, best)
		}
		for i, c := range l {
			b := l[best]
			if c.Prio > b.Prio || c.Prio == b.Prio && (c.Path < b.Path || c.Path == b.Path && i < best) {
				t.Fatalf("Best(%v): %d, but %d", l, best, i)
			}
		}
	}
}

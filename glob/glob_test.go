package glob_test

import (
	"math/rand/v2"
	"slices"
	"strings"
	"testing"

	"cellarer/api"
	"cellarer/glob"
	"cellarer/overs"
)

var every = func() string {
	var out []byte
	for b := range 256 {
		out = append(out, byte(b))
	}
	return string(out)
}()

// matched is all bytes that a pattern matches alone.
func matched(p string) string {
	var out []byte
	for i := range len(every) {
		if glob.Match(p, every[i:i+1]) {
			out = append(out, every[i])
		}
	}
	return string(out)
}

// without is all bytes but some.
func without(some string) string {
	var out []byte
	for i := range len(every) {
		if !strings.Contains(some, every[i:i+1]) {
			out = append(out, every[i])
		}
	}
	return string(out)
}

// P29.1

func TestOneByte(t *testing.T) {
	for _, c := range []struct{ p, want string }{
		{"a", "a"},
		{"\x00", "\x00"},
		{"\xff", "\xff"},
		{"]", "]"},
		{"-", "-"},
		{"!", "!"},
		{"?", every},
		{"*", every},
		{"**", every},
		{"*?", every},
		{"?*", every},
		{"***?***", every},
		{`\a`, "a"},
		{`\\`, `\`},
		{`\*`, "*"},
		{`\?`, "?"},
		{`\[`, "["},
		{`\]`, "]"},
		{"\\\xff", "\xff"},
		{"[a]", "a"},
		{"[abc]", "abc"},
		{"[cab]", "abc"},
		{"[aa]", "a"},
		{"[!a]", without("a")},
		{"[!abc]", without("abc")},
		{"[a-d]", "abcd"},
		{"[!a-d]", without("abcd")},
		{"[a-a]", "a"},
		{"[d-a]", ""},
		{"[!d-a]", every},
		{"[a-cx-z]", "abcxyz"},
		{"[xa-c0]", "0abcx"},
		{"[\x00-\xff]", every},
		{"[!\x00-\xff]", ""},
		{"[\xfe-\xff]", "\xfe\xff"},
		{"[\x80]", "\x80"},
		{"[\xc3\xa4]", "\xa4\xc3"}, // bytes, not runes
		// An end is a byte as the first member.
		{"[]]", "]"},
		{"[!]]", without("]")},
		{"[]a]", "]a"},
		{"[!]a]", without("]a")},
		{"[]-a]", "]^_`a"},
		{"[!]-a]", without("]^_`a")},
		{"[]-]", "-]"},
		{"[[-]", "-["},
		{`[[-\]]`, `[\]`},
		{`[\]]`, "]"},
		{`[a\]]`, "]a"},
		{`[a\]b]`, "]ab"},
		// An exclamation mark elsewhere is a byte.
		{"[!!]", without("!")},
		{"[a!]", "!a"},
		{`[\!a]`, "!a"},
		{`[\!]`, "!"},
		{"[!!a]", without("!a")},
		{"[!-#]", without("-#")},
		{"[!!-#]", without("!\"#")},
		{`[\!-#]`, "!\"#"},
		// A hyphen at the beginning, at the end, and where it is no such one.
		{"[-]", "-"},
		{"[--]", "-"},
		{"[---]", "-"},
		{"[----]", "-"},
		{"[-a]", "-a"},
		{"[a-]", "-a"},
		{"[!a-]", without("-a")},
		{"[!-]", without("-")},
		{"[a-c-]", "-abc"},
		{"[a-c-e]", "-abce"},
		{"[a-c--0]", "-./0abc"},
		{"[--0]", "-./0"},
		{"[+--]", "+,-"},
		{"[a--]", ""},
		{`[a\-c]`, "-ac"},
		{`[\--0]`, "-./0"},
		{`[+-\-]`, "+,-"},
		{`[\a-\c]`, "abc"},
		{`[a-\]]`, ""},
		{`[Z-\]]`, `Z[\]`},
		{`[\\-a]`, "\\]^_`a"},
		{`[Z-\\]`, `Z[\`},
		{`[\\]`, `\`},
		// What means something outside a set.
		{"[*]", "*"},
		{"[?]", "?"},
		{"[[]", "["},
		{"[*?[]", "*?["},
		{"[[]*", "["},
		{"[[a]", "[a"},
		{"*[a]", "a"},
		{"[a]*", "a"},
	} {
		if got := matched(c.p); got != sorted(c.want) || !glob.Right(c.p) {
			t.Errorf("%q matches %q, want %q", c.p, got, c.want)
		}
	}
}

func sorted(s string) string {
	l := []byte(s)
	slices.Sort(l)
	return string(l)
}

func TestMatch(t *testing.T) {
	for _, c := range []struct {
		p, s string
		want bool
	}{
		{"", "", true},
		{"", "a", false},
		{"a", "", false},
		{"?", "", false},
		{"[a]", "", false},
		{"[!a]", "", false},
		{`\a`, "", false},
		{"*", "", true},
		{"**", "", true},
		{"*?", "", false},
		{"abc", "abc", true},
		{"abc", "ab", false},
		{"abc", "abcd", false},
		{"abc", "bc", false},
		{"abc", "ABC", false},
		{"a?c", "abc", true},
		{"a?c", "a?c", true},
		{"a?c", "ac", false},
		{"a?c", "a/c", true},
		{"??", "ab", true},
		{"??", "a", false},
		{"??", "abc", false},
		{"??", "ä", true},
		{"/bin/*", "/bin/a", true},
		{"/bin/*", "/bin/a/b", true},
		{"/bin/*", "/bin/", true},
		{"/bin/*", "/bin", false},
		{"/bin/*", "/usr/bin/a", false},
		{"*/bin/*", "/usr/bin/a", true},
		{"[!a-c]?", "de", true},
		{"[!a-c]?", "ab", false},
		{"[!a-c]?", "d", false},
		{"*a", "a", true},
		{"*a", "aa", true},
		{"*a", "ba", true},
		{"*a", "ab", false},
		{"*aab", "aaab", true},
		{"*aab", "aabaab", true},
		{"*aab", "aaba", false},
		{"a*", "a", true},
		{"a*", "ba", false},
		{"a*a", "a", false},
		{"a*a", "aa", true},
		{"a*a", "aba", true},
		{"a*b*c", "abc", true},
		{"a*b*c", "aXbXbcXc", true},
		{"a*b*c", "acb", false},
		{"*a*b*", "ba", false},
		{"*a*b*", "bab", true},
		{"*ab*ab*", "abab", true},
		{"*ab*ab*", "aba", false},
		{"*ab*ba*", "aba", false},
		{"*ab*ba*", "abba", true},
		{"*?*?*", "a", false},
		{"*?*?*", "ab", true},
		{"a**b", "ab", true},
		{"a**b", "acb", true},
		{"a***", "a", true},
		{"*[ab]c", "aabac", true},
		{"*[ab]c", "aabad", false},
		{"*[a]*[!a]", "ba", false},
		{"*[a]*[!a]", "bab", true},
		{`*\*`, "a*", true},
		{`*\*`, "a", false},
		{`\a\b`, "ab", true},
		{`\a\b`, `\a\b`, false},
		{`\*a`, "ba", false},
		{`\[a]`, "[a]", true},
		{`\[a]`, "a", false},
		{"[a]]", "a]", true},
		{"[a]]", "a", false},
		{"[]]]", "]]", true},
		{"[a-]]", "-]", true},
		{"[a][b]", "ab", true},
		{"[a][b]", "ba", false},
		{"a]", "a]", true},
		{"\x00*\x00", "\x00\xff\x00", true},
	} {
		if got := glob.Match(c.p, c.s); got != c.want || !glob.Right(c.p) {
			t.Errorf("Match(%q, %q): %v", c.p, c.s, got)
		}
	}
}

func TestRight(t *testing.T) {
	n := strings.Repeat
	for _, c := range []struct {
		p    string
		want bool
	}{
		{"", true},
		{n("a", 199), true},
		{n("a", 200), true},
		{n("a", 201), false},
		{n("*", 200), true},
		{n("*", 201), false},
		{n("?", 200), true},
		{n("?", 201), false},
		{n(`\`, 200), true},
		{n(`\`, 202), false},
		{n(`\a`, 100), true},
		{n("[a]", 66) + "aa", true},
		{n("[a]", 66) + "aaa", false},
		{"[" + n("a", 198) + "]", true},
		{"[" + n("a", 199) + "]", false},
		{"[" + n("a", 199), false},
		{n("ä", 100), true},
		{n("ä", 101), false},
		{n("a", 1<<20), false},
		// Sets without an end.
		{"[", false},
		{"[]", false},
		{"[!", false},
		{"[!]", false},
		{"[a", false},
		{"[a-", false},
		{"[a-z", false},
		{"[-", false},
		{"[!a", false},
		{"[!!", false},
		{"[]a", false},
		{"[]-", false},
		{"[]-a", false},
		{"[[", false},
		{"[a][", false},
		{"[a][b", false},
		{"a[", false},
		{"*[", false},
		{`[\]`, false},
		{`[a\]`, false},
		{`[a-\]`, false},
		{`[!\]`, false},
		{`\\[`, false},
		{`\[`, true},
		{`\[\]`, true},
		{"]", true},
		{"[]]", true},
		{"[[]", true},
		// Backslashes without a byte behind them.
		{`\`, false},
		{`a\`, false},
		{`*\`, false},
		{`\\`, true},
		{`\\\`, false},
		{`\\\\`, true},
		{`a\\`, true},
		{`a\\\`, false},
		{`[a]\`, false},
		{`[\`, false},
		{`[a\`, false},
		{`[a-\`, false},
		{`[!\`, false},
		{`[\\`, false},
		{`[\\]`, true},
	} {
		if got := glob.Right(c.p); got != c.want {
			t.Errorf("Right(%q): %v", c.p, got)
		}
		if c.want {
			continue
		}
		for _, s := range []string{"", "a", c.p} {
			if glob.Match(c.p, s) || glob.Select([]string{s}, c.p) != nil {
				t.Errorf("%q matches %q", c.p, s)
			}
		}
		if s := glob.Diverts([]api.Divert{{Path: c.p, To: c.p, By: c.p}, {}}, c.p) + glob.Overs([]api.Over{{Path: c.p}, {}}, c.p); s != "" {
			t.Errorf("%q matches %q", c.p, s)
		}
	}
}

// piece is a byte of a pattern; a plain one may mean something.
type piece struct {
	b     byte
	plain bool
}

// pieces is a pattern's bytes, unless a backslash lacks one.
func pieces(p string) ([]piece, bool) {
	var out []piece
	for i := 0; i < len(p); i++ {
		plain := p[i] != '\\'
		if !plain {
			i++
		}
		if i == len(p) {
			return nil, false
		}
		out = append(out, piece{p[i], plain})
	}
	return out, true
}

// setOf is the bytes of a set that begins with some pieces, and how many of them
// are its own: none if it has no end.
func setOf(l []piece) (in [256]bool, n int) {
	out := l[0] == piece{'!', true}
	if out {
		n = 1
	}
	end := n + 1
	for end < len(l) && l[end] != (piece{']', true}) {
		end++
	}
	if end >= len(l) {
		return in, 0
	}
	for i := n; i < end; i++ {
		last := i
		if i+2 < end && l[i+1] == (piece{'-', true}) {
			last = i + 2
		}
		for b := range 256 {
			in[b] = in[b] || int(l[i].b) <= b && b <= int(l[last].b)
		}
		i = last
	}
	for b := range in {
		in[b] = in[b] != out
	}
	return in, end + 1
}

// stands tries all ways in which pieces may stand for a text; right is whether
// they do for some text at all.
func stands(l []piece, s string) (is, right bool) {
	if len(l) == 0 {
		return s == "", true
	}
	rest, fits := l[1:], func(b byte) bool { return b == l[0].b }
	switch l[0] {
	case piece{'*', true}:
		for i := range len(s) + 1 {
			is, right = stands(rest, s[i:])
			if is {
				break
			}
		}
		return is, right
	case piece{'?', true}:
		fits = func(byte) bool { return true }
	case piece{'[', true}:
		if len(rest) == 0 {
			return false, false
		}
		in, n := setOf(rest)
		if n == 0 {
			return false, false
		}
		rest, fits = rest[n:], func(b byte) bool { return in[b] }
	}
	if s == "" || !fits(s[0]) {
		_, right = stands(rest, "")
		return false, right
	}
	return stands(rest, s[1:])
}

// texts is all texts of at most n of some bytes.
func texts(of string, n int) []string {
	out := []string{""}
	for from := 0; n > 0; n-- {
		to := len(out)
		for _, s := range out[from:to] {
			for i := range len(of) {
				out = append(out, s+of[i:i+1])
			}
		}
		from = to
	}
	return out
}

// against holds a pattern against the model, for some texts.
func against(t *testing.T, p string, l []string) {
	t.Helper()
	pattern, ok := pieces(p)
	for _, s := range l {
		is, right := false, false
		if ok {
			is, right = stands(pattern, s)
		}
		if glob.Match(p, s) != (is && right) || glob.Right(p) != right {
			t.Fatalf("Match(%q, %q) is not %v, or Right not %v", p, s, is, right)
		}
	}
}

func TestModel(t *testing.T) {
	short := texts(`a-]\b`, 3)
	for _, p := range texts(`ac-![]\*?`, 4) {
		against(t, p, short)
	}
	r := rand.New(rand.NewPCG(29, 1))
	random := func(of string, n int) string {
		var out strings.Builder
		for range r.IntN(n) {
			out.WriteByte(of[r.IntN(len(of))])
		}
		return out.String()
	}
	for range 4000 {
		var l []string
		for range 20 {
			l = append(l, random("aab", 12))
		}
		against(t, random("aab**?", 10), l)
		against(t, random(`aab**?[[]]!-\`, 16), l)
		against(t, "["+random(`ac-!]\`, 10)+"]", texts(`abc-!]\`, 1))
	}
}

// What is tried again is bounded, whatever the pattern.
func TestLong(t *testing.T) {
	long := strings.Repeat("a", 1<<17)
	for _, c := range []struct {
		p, s string
		want bool
	}{
		{strings.Repeat("*", 200), long, true},
		{strings.Repeat("*a", 100), long, true},
		{strings.Repeat("*a", 99) + "*b", long, false},
		{strings.Repeat("*a", 99) + "*", long + "b", true},
		{"*" + strings.Repeat("a", 198) + "b", long, false},
		{"*" + strings.Repeat("a", 198) + "b", long + "b", true},
		{strings.Repeat("*?", 100), long, true},
		{strings.Repeat("*[!b]", 40), long, true},
		{strings.Repeat("?", 200), long[:200], true},
		{strings.Repeat("?", 200), long[:199], false},
		{strings.Repeat("?", 200), long[:201], false},
		{"a", long, false},
		{"a*b", long, false},
	} {
		if got := glob.Match(c.p, c.s); got != c.want {
			t.Errorf("Match(%q, %d bytes): %v", c.p, len(c.s), got)
		}
	}
}

// P29.2

func TestSelect(t *testing.T) {
	l := []string{"b", "ab", "", "b", "a", "cb", "*b"}
	for _, c := range []struct {
		p    string
		want []string
	}{
		{"*b", []string{"b", "ab", "b", "cb", "*b"}},
		{`\*b`, []string{"*b"}},
		{"?", []string{"b", "b", "a"}},
		{"", []string{""}},
		{"*", l},
		{"[ac]b", []string{"ab", "cb"}},
		{"x", nil},
		{"[", nil},
	} {
		arg := append(slices.Clone(l), "spare")
		if got := glob.Select(arg[:len(l)], c.p); !slices.Equal(got, c.want) {
			t.Errorf("Select(%q): %q, want %q", c.p, got, c.want)
		}
		if !slices.Equal(arg, append(l, "spare")) {
			t.Errorf("Select(%q) changed its argument", c.p)
		}
		if got := glob.Select(nil, c.p); len(got) != 0 {
			t.Errorf("Select(%q) of none: %q", c.p, got)
		}
	}
}

func TestDiverts(t *testing.T) {
	const (
		a = "local diversion of /a to /a.distrib\n"
		b = "diversion of /b to /x/b by pack\n"
		c = "diversion of /c to /y by local\n"
		d = "diversion of /x/d to /d by a\n"
	)
	l := []api.Divert{{Path: "/a", To: "/a.distrib"}, {Path: "/b", To: "/x/b", By: "pack"}, {Path: "/c", To: "/y", By: "local"}, {Path: "/x/d", To: "/d", By: "a"}}
	for _, x := range []struct{ p, want string }{
		{"*", a + b + c + d},
		{"/a", a},
		{"*distrib", a},
		{"local", a + c},
		{"l*l", a + c},
		{"loca", ""},
		{"pack", b},
		{"/b", b},
		{"/x/*", b + d},
		{"/[bd]", b + d},
		{"a", d},
		{"?", d},
		{"", ""},
		{"/", ""},
		{"[", ""},
		{"*\\", ""},
		{"to", ""},
		{"local diversion of*", ""},
	} {
		if got := glob.Diverts(l, x.p); got != x.want {
			t.Errorf("Diverts(%q): %q, want %q", x.p, got, x.want)
		}
		if got := glob.Diverts(nil, x.p); got != "" {
			t.Errorf("Diverts(%q) of none: %q", x.p, got)
		}
	}
	// The order is that of the list, and what may not be a diversion is shown too.
	for _, x := range []struct {
		l       []api.Divert
		p, want string
	}{
		{[]api.Divert{l[2], l[0], l[2]}, "local", c + a + c},
		{[]api.Divert{{Path: "", To: "*"}}, "", "local diversion of  to *\n"},
		{[]api.Divert{{Path: "x", To: "x", By: "X"}}, "X", "diversion of x to x by X\n"},
	} {
		if got := glob.Diverts(x.l, x.p); got != x.want {
			t.Errorf("Diverts(%v, %q): %q, want %q", x.l, x.p, got, x.want)
		}
	}
}

func TestOvers(t *testing.T) {
	const (
		a = "#0 #5 4755 /a\n"
		b = "#67108863 #1 0000 /b/a\n"
		c = "#1 #2 7777 /c\n"
	)
	l := []api.Over{
		{Path: "/a", Meta: api.Meta{Mode: 0o4755, Gid: 5}}, {Path: "/b/a", Meta: api.Meta{Uid: api.MaxId, Gid: 1}}, {Path: "/c", Meta: api.Meta{Mode: 0o7777, Uid: 1, Gid: 2}},
	}
	for _, x := range []struct{ p, want string }{
		{"*", a + b + c},
		{"*/a", a + b},
		{"/?", a + c},
		{"/b*", b},
		{"/[!a]", c},
		{"#*", ""},
		{"4755", ""},
		{"", ""},
		{"/a/", ""},
		{"[", ""},
	} {
		if got := glob.Overs(l, x.p); got != x.want {
			t.Errorf("Overs(%q): %q, want %q", x.p, got, x.want)
		}
		if got := glob.Overs(nil, x.p); got != "" {
			t.Errorf("Overs(%q) of none: %q", x.p, got)
		}
	}
	if text, e := overs.Print(l); e != api.OK || glob.Overs(l, "*") != text {
		t.Errorf("Overs of all: %q, want %q", glob.Overs(l, "*"), text)
	}
	odd := []api.Over{l[2], {Path: "x", Meta: api.Meta{Mode: -1, Uid: -7, Gid: api.MaxId + 1}}, l[0], l[2]}
	if got, want := glob.Overs(odd, "*"), c+"#-7 #67108864 7777 x\n"+a+c; got != want {
		t.Errorf("Overs in another order: %q, want %q", got, want)
	}
}

// P29.3

func TestPlain(t *testing.T) {
	for s, want := range map[string]string{
		"":           "",
		"a":          "a",
		"/bin/a-b!":  "/bin/a-b!",
		"*":          `\*`,
		"?":          `\?`,
		"[":          `\[`,
		"]":          `\]`,
		`\`:          `\\`,
		`a*?[!b-c]\`: `a\*\?\[!b-c\]\\`,
		"\x00\xffä":  "\x00\xffä",
	} {
		if got := glob.Plain(s); got != want {
			t.Errorf("Plain(%q): %q, want %q", s, got, want)
		}
	}
	if got := matched(glob.Plain("")); got != "" {
		t.Errorf("Plain of nothing matches %q", got)
	}
	for i := range len(every) {
		if s := every[i : i+1]; matched(glob.Plain(s)) != s {
			t.Errorf("Plain(%q) matches %q", s, matched(glob.Plain(s)))
		}
	}
	l := texts(`a*?[]\!-`, 3)
	for _, s := range l {
		if got := glob.Select(l, glob.Plain(s)); !slices.Equal(got, []string{s}) {
			t.Errorf("Plain(%q) matches %q", s, got)
		}
	}
	for s, want := range map[string]bool{strings.Repeat("*", 100): true, strings.Repeat("*", 101): false, strings.Repeat("a", 200): true, strings.Repeat("a", 201): false} {
		if p := glob.Plain(s); glob.Right(p) != want || glob.Match(p, s) != want {
			t.Errorf("Plain of %d bytes", len(s))
		}
	}
}

// Patterns one behind the other match texts one behind the other, and nothing
// else: so no pattern reaches into what is behind it.
func TestConcatenation(t *testing.T) {
	var patterns []string
	for _, p := range texts(`a-![]\*`, 3) {
		if glob.Right(p) {
			patterns = append(patterns, p)
		}
	}
	l := texts("a]-", 2)
	r := rand.New(rand.NewPCG(29, 2))
	for range 3000 {
		p, q := patterns[r.IntN(len(patterns))], patterns[r.IntN(len(patterns))]
		for _, s := range texts("a]-", 3) {
			want := false
			for i := range len(s) + 1 {
				want = want || glob.Match(p, s[:i]) && glob.Match(q, s[i:])
			}
			if got := glob.Match(p+q, s); got != want {
				t.Fatalf("Match(%q%q, %q): %v", p, q, s, got)
			}
		}
	}
	for _, s := range append(l, every, strings.Repeat("x", 1<<17)) {
		if !glob.Match("*", s) || !glob.Match("**", s) {
			t.Errorf("a star does not match %q", s)
		}
	}
}

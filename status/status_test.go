package status_test

import (
	"fmt"
	"math"
	"math/rand/v2"
	"reflect"
	"slices"
	"strings"
	"testing"

	"cellarer/api"
	"cellarer/status"
)

const sum = "cbf29ce484222325"

var (
	longest     = strings.Repeat("a", 60)
	longestPath = "/" + strings.Repeat("a", 199)
	longestVer  = strings.Repeat("1", 80)
)

// near gives texts that differ from one by one byte: one that is lacking, one
// in another's place, or one more.
func near(s string, f func(string)) {
	const others = " \n\t\x00\x7f\xffaAb10/:-.,|()=><#"
	for i := range len(s) + 1 {
		for j := range len(others) {
			f(s[:i] + others[j:j+1] + s[i:])
		}
		if i == len(s) {
			return
		}
		f(s[:i] + s[i+1:])
		for j := range len(others) {
			f(s[:i] + others[j:j+1] + s[i+1:])
		}
		f(s[:i] + string([]byte{s[i] ^ 0x20}) + s[i+1:]) // of the other case
	}
}

// plain takes lists that are empty as nil.
func plain(l []api.Record) []api.Record {
	var out []api.Record
	for _, x := range l {
		for _, list := range []*[]string{&x.Replaces, &x.Pending, &x.Awaited} {
			if len(*list) == 0 {
				*list = nil
			}
		}
		if len(x.Depends) == 0 {
			x.Depends = nil
		}
		if len(x.Conflicts) == 0 {
			x.Conflicts = nil
		}
		if len(x.Confs) == 0 {
			x.Confs = nil
		}
		out = append(out, x)
	}
	return out
}

func same(a, b []api.Record) bool { return reflect.DeepEqual(plain(a), plain(b)) }

// rec is a record without lists.
func rec(name string, state int) api.Record {
	return api.Record{Name: name, Version: "1", State: state}
}

// with is a record that is installed, with a change.
func with(change func(*api.Record)) api.Record {
	x := rec("a", api.SInstalled)
	change(&x)
	return x
}

// numbered is n texts that rise.
func numbered(form string, n int) []string {
	var out []string
	for i := range n {
		out = append(out, fmt.Sprintf(form, i))
	}
	return out
}

func conf(p, sum string) api.Conf { return api.Conf{Path: p, Sum: sum} }

func confs(paths ...string) []api.Conf {
	var out []api.Conf
	for _, p := range paths {
		out = append(out, conf(p, sum))
	}
	return out
}

func rels(names ...string) []api.Rel {
	var out []api.Rel
	for _, name := range names {
		out = append(out, api.Rel{Name: name})
	}
	return out
}

func records(names ...string) []api.Record {
	var out []api.Record
	for _, name := range names {
		out = append(out, rec(name, api.SInstalled))
	}
	return out
}

// P8.1

func TestTrigger(t *testing.T) {
	for _, s := range []string{"a", "0", "0.b+c-", longest, "/", "/a", "/a/b", "/A_b", "/usr/lib", longestPath} {
		if !status.Trigger(s) {
			t.Errorf("Trigger(%q): false", s)
		}
	}
	for _, s := range []string{
		"", " ", "A", "-a", ".", "a b", "a/b", "a\n", "a_", "ä", longest + "a",
		"//", "/a/", "/a//b", "/./a", "/a/..", "/a b", "/a\n", "/ä", "/a\x7f", " /a", longestPath + "a",
	} {
		if status.Trigger(s) {
			t.Errorf("Trigger(%q): true", s)
		}
	}
}

var wordOf = map[int]string{
	1: "config-files", 2: "half-installed", 3: "unpacked", 4: "half-configured",
	5: "triggers-awaited", 6: "triggers-pending", 7: "installed",
}

func TestWord(t *testing.T) {
	for state := -300; state < 300; state++ {
		if got := status.Word(state); got != wordOf[state] {
			t.Errorf("Word(%d): %q", state, got)
		}
	}
	for _, state := range []int{math.MinInt, math.MaxInt, math.MinInt32, math.MaxInt32, 1<<32 + 1, 1 << 40} {
		if got := status.Word(state); got != "" {
			t.Errorf("Word(%d): %q", state, got)
		}
	}
}

func TestState(t *testing.T) {
	for state, word := range wordOf {
		if got := status.State(word); got != state {
			t.Errorf("State(%q): %d", word, got)
		}
		near(word, func(s string) {
			if got := status.State(s); got != 0 && s != word {
				t.Errorf("State(%q): %d", s, got)
			}
		})
	}
	for _, s := range []string{"", " ", "config", "not-installed", "half", "7", "installed installed"} {
		if got := status.State(s); got != 0 {
			t.Errorf("State(%q): %d", s, got)
		}
	}
}

// P8.2

func rightRecords() []api.Record {
	out := []api.Record{
		with(func(x *api.Record) { x.Name = longest }),
		with(func(x *api.Record) { x.Name = "0.b+c-" }),
		with(func(x *api.Record) { x.Version = longestVer }),
		with(func(x *api.Record) { x.Version = "1:2-3" }),
		with(func(x *api.Record) {
			x.Depends = [][]api.Rel{rels("b", "a"), {{Name: "a", Op: ">=", Version: "1"}}, rels("b")}
		}),
		with(func(x *api.Record) { x.Depends = slices.Repeat([][]api.Rel{slices.Repeat(rels("b"), 64)}, 64) }),
		with(func(x *api.Record) {
			x.Conflicts = []api.Rel{{Name: "b", Op: "<<", Version: "1"}, {Name: "a"}, {Name: "a"}}
		}),
		with(func(x *api.Record) { x.Conflicts = slices.Repeat(rels("b"), 64) }),
		with(func(x *api.Record) { x.Replaces = []string{"b", "a", "b"} }),
		with(func(x *api.Record) { x.Replaces = slices.Repeat([]string{longest}, 64) }),
		with(func(x *api.Record) { x.Confs = confs("/", "/a", "/a/b", longestPath) }),
		with(func(x *api.Record) { x.Confs = confs(numbered("/a%02d", 64)...) }),
		with(func(x *api.Record) { x.Confs = []api.Conf{{Path: "/a", Sum: "0000000000000000"}} }),
		with(func(x *api.Record) { x.State, x.Pending = 6, []string{"/", "/a", "a", "a-b"} }),
		with(func(x *api.Record) { x.State, x.Pending = 6, numbered("/a%02d", 64) }),
		with(func(x *api.Record) { x.State, x.Awaited = 5, []string{"0", "a", "b"} }),
		with(func(x *api.Record) { x.State, x.Awaited = 5, numbered("a%02d", 64) }),
		with(func(x *api.Record) { x.State, x.Awaited, x.Pending = 5, []string{"a"}, []string{"b"} }),
		{Name: "a", Version: "1", State: 7, Depends: [][]api.Rel{}, Conflicts: []api.Rel{}, Replaces: []string{}, Confs: []api.Conf{}, Pending: []string{}, Awaited: []string{}},
	}
	for _, state := range []int{1, 2, 3, 4, 7} {
		out = append(out, rec("a", state))
	}
	return out
}

func wrongRecords() []api.Record {
	out := []api.Record{{}}
	add := func(change func(*api.Record)) { out = append(out, with(change)) }
	for _, name := range []string{"", "A", "-", "a b", "/a", "a\n", longest + "a"} {
		add(func(x *api.Record) { x.Name = name })
		add(func(x *api.Record) { x.Depends = [][]api.Rel{rels("a"), rels("b", name)} })
		add(func(x *api.Record) { x.Conflicts = rels("a", name) })
		add(func(x *api.Record) { x.Replaces = []string{"a", name, "b"} })
		add(func(x *api.Record) { x.State, x.Awaited = 5, []string{name} })
	}
	for _, v := range []string{"", "a", "1-", ":1", "1 ", "1:", "1_", longestVer + "1"} {
		add(func(x *api.Record) { x.Version = v })
	}
	for _, state := range []int{0, -1, 8, 9, 256 + 7, 1<<32 + 7, math.MinInt, math.MaxInt} {
		add(func(x *api.Record) { x.State = state })
		add(func(x *api.Record) { x.State, x.Pending = state, []string{"a"} })
		add(func(x *api.Record) { x.State, x.Awaited = state, []string{"a"} })
	}
	// Triggers without their state, and the state without its triggers.
	for _, state := range []int{1, 2, 3, 4, 7} {
		add(func(x *api.Record) { x.State, x.Pending = state, []string{"a"} })
		add(func(x *api.Record) { x.State, x.Awaited = state, []string{"a"} })
		add(func(x *api.Record) { x.State, x.Pending, x.Awaited = state, []string{"a"}, []string{"a"} })
	}
	add(func(x *api.Record) { x.State = 5 })
	add(func(x *api.Record) { x.State, x.Awaited = 5, []string{} })
	add(func(x *api.Record) { x.State, x.Pending = 5, []string{"a"} })
	add(func(x *api.Record) { x.State = 6 })
	add(func(x *api.Record) { x.State, x.Awaited = 6, []string{"a"} })
	add(func(x *api.Record) { x.State, x.Pending, x.Awaited = 6, []string{"a"}, []string{"a"} })
	// What relations refuse.
	add(func(x *api.Record) { x.Depends = [][]api.Rel{nil} })
	add(func(x *api.Record) { x.Depends = slices.Repeat([][]api.Rel{rels("b")}, 65) })
	add(func(x *api.Record) { x.Depends = [][]api.Rel{slices.Repeat(rels("b"), 65)} })
	add(func(x *api.Record) { x.Depends = [][]api.Rel{{{Name: "b", Op: ">", Version: "1"}}} })
	add(func(x *api.Record) { x.Conflicts = slices.Repeat(rels("b"), 65) })
	add(func(x *api.Record) { x.Conflicts = []api.Rel{{Name: "b", Op: "=", Version: ""}} })
	add(func(x *api.Record) { x.Conflicts = []api.Rel{{Name: "b", Version: "1"}} })
	add(func(x *api.Record) { x.Replaces = slices.Repeat([]string{"b"}, 65) })
	// Conffiles.
	add(func(x *api.Record) { x.Confs = confs(numbered("/a%02d", 65)...) })
	for _, p := range []string{"", "a", "/a/", "//a", "/a b", "/a\n", longestPath + "a"} {
		add(func(x *api.Record) { x.Confs = confs(p) })
		add(func(x *api.Record) { x.State, x.Pending = 6, []string{"/" + p + "/"} })
	}
	for _, paths := range [][]string{{"/a", "/a"}, {"/b", "/a"}, {"/a", "/c", "/b"}, {"/a/b", "/a"}} {
		add(func(x *api.Record) { x.Confs = confs(paths...) })
	}
	add(func(x *api.Record) { x.Confs = []api.Conf{conf("/a", sum), conf("/a", "0000000000000000")} })
	for _, s := range []string{"", "0", sum[1:], sum + "0", strings.ToUpper(sum), "g" + sum[1:], " " + sum[1:], "+" + sum[1:]} {
		add(func(x *api.Record) { x.Confs = []api.Conf{conf("/a", s)} })
	}
	// Lists of triggers, and of names.
	for _, l := range [][]string{{"a", "a"}, {"b", "a"}, {"a", "c", "b"}, {""}, {"a", "b", ""}, {"A"}, {"a b"}, {longest + "a"}} {
		add(func(x *api.Record) { x.State, x.Pending = 6, l })
		add(func(x *api.Record) { x.State, x.Awaited = 5, l })
		add(func(x *api.Record) { x.State, x.Awaited, x.Pending = 5, []string{"a"}, l })
	}
	add(func(x *api.Record) { x.State, x.Pending = 6, numbered("a%02d", 65) })
	add(func(x *api.Record) { x.State, x.Awaited = 5, numbered("a%02d", 65) })
	add(func(x *api.Record) { x.State, x.Awaited = 5, []string{"/a"} })
	return out
}

func TestRight(t *testing.T) {
	for _, x := range rightRecords() {
		if !status.Right(x) {
			t.Errorf("Right(%v): false", x)
		}
	}
	for _, x := range wrongRecords() {
		if status.Right(x) {
			t.Errorf("Right(%v): true", x)
		}
	}
}

func TestCheck(t *testing.T) {
	most := records(numbered("a%02d", 64)...)
	for _, c := range []struct {
		l    []api.Record
		want api.Errno
	}{
		{nil, api.OK},
		{[]api.Record{}, api.OK},
		{records("a"), api.OK},
		{records("a", "b", "c"), api.OK},
		{records("+a"), api.EARG},
		{records("0", "a", "a+", "a-", "a.", "a0", "aa"), api.OK},
		{records("a", "a"), api.EARG},
		{records("b", "a"), api.EARG},
		{records("a", "c", "b"), api.EARG},
		{records("a", "b", "b"), api.EARG},
		{[]api.Record{rec("a", 7), rec("a", 1)}, api.EARG},
		{most, api.OK},
		{append(most, rec("b", 7)), api.EFULL},
		{slices.Repeat(records("-"), 65), api.EFULL},
		{make([]api.Record, 1000), api.EFULL},
		{make([]api.Record, 64), api.EARG},
	} {
		if got := status.Check(c.l); got != c.want {
			t.Errorf("Check(%v): %d, want %d", c.l, got, c.want)
		}
		if c.want != api.OK {
			if s, e := status.Print(c.l); s != "" || e != c.want {
				t.Errorf("Print(%v): %q %d, want %d", c.l, s, e, c.want)
			}
		}
	}
	for _, x := range rightRecords() {
		x.Name = "b"
		if got := status.Check([]api.Record{rec("a", 7), x, rec("c", 7)}); got != api.OK {
			t.Errorf("Check with %v: %d", x, got)
		}
	}
	for _, x := range wrongRecords() {
		if x.Name == "a" {
			x.Name = "b"
		}
		l := []api.Record{rec("a", 7), x, rec("c", 7)}
		if got := status.Check(l); got != api.EARG {
			t.Errorf("Check with %v: %d", x, got)
		}
		if s, e := status.Print(l); s != "" || e != api.EARG {
			t.Errorf("Print with %v: %q %d", x, s, e)
		}
	}
}

// P8.3

var full = api.Record{
	Name: "a", Version: "1:2-3", State: api.SAwaited,
	Depends:   [][]api.Rel{{{Name: "b", Op: ">=", Version: "1"}, {Name: "c"}}, rels("d")},
	Conflicts: []api.Rel{{Name: "f", Op: "<<", Version: "2"}, {Name: "e"}},
	Replaces:  []string{"h", "g"},
	Confs:     []api.Conf{conf("/etc/a", sum), conf("/etc/b", "0000000000000001")},
	Pending:   []string{"/usr", "t"},
	Awaited:   []string{"i", "j"},
}

const fullText = `Package: a
Status: triggers-awaited
Version: 1:2-3
Depends: b (>= 1) | c, d
Conflicts: f (<< 2), e
Replaces: h g
Conffiles:
 /etc/a cbf29ce484222325
 /etc/b 0000000000000001
Triggers-Pending: /usr t
Triggers-Awaited: i j
`

// printed are records, and what is printed of them.
var printed = []struct {
	l []api.Record
	s string
}{
	{nil, ""},
	{records("a"), "Package: a\nStatus: installed\nVersion: 1\n"},
	{[]api.Record{full}, fullText},
	{
		[]api.Record{rec("0", 1), full, rec("b", 2), rec("c", 3), rec("d", 4)},
		"Package: 0\nStatus: config-files\nVersion: 1\n\n" + fullText + "\nPackage: b\nStatus: half-installed\nVersion: 1\n" +
			"\nPackage: c\nStatus: unpacked\nVersion: 1\n\nPackage: d\nStatus: half-configured\nVersion: 1\n",
	},
	{
		[]api.Record{with(func(x *api.Record) { x.State, x.Pending = 6, []string{"/"} })},
		"Package: a\nStatus: triggers-pending\nVersion: 1\nTriggers-Pending: /\n",
	},
	{
		[]api.Record{with(func(x *api.Record) { x.State, x.Awaited = 5, []string{"a"} })},
		"Package: a\nStatus: triggers-awaited\nVersion: 1\nTriggers-Awaited: a\n",
	},
	{
		[]api.Record{with(func(x *api.Record) { x.Confs = confs("/") })},
		"Package: a\nStatus: installed\nVersion: 1\nConffiles:\n / " + sum + "\n",
	},
	{
		// A version is written as it stands.
		[]api.Record{{Name: "a", Version: "0:01-0", State: 7, Replaces: []string{"a"}}},
		"Package: a\nStatus: installed\nVersion: 0:01-0\nReplaces: a\n",
	},
}

func TestPrint(t *testing.T) {
	for _, c := range printed {
		if got, e := status.Print(c.l); got != c.s || e != api.OK {
			t.Errorf("Print(%v): %q %d, want %q", c.l, got, e, c.s)
		}
	}
}

func TestParse(t *testing.T) {
	for _, c := range printed {
		if got, e := status.Parse(c.s); !same(got, c.l) || e != api.OK {
			t.Errorf("Parse(%q): %v %d, want %v", c.s, got, e, c.l)
		}
	}
}

// wide is relations whose text has that many bytes, of 65470 to 65600.
func wide(n int) [][]api.Rel {
	name := strings.Repeat("a", 13)
	var l [][]api.Rel
	for range 64 {
		l = append(l, slices.Repeat(rels(name), 64))
	}
	const base = 64*(64*13+63*3) + 63*2
	for i, more := 0, n-base; more > 0; i++ {
		some := min(more, 40)
		l[0][i].Name += strings.Repeat("b", some)
		more -= some
	}
	return l
}

// A record may be that has no text.
func TestPrintLongFields(t *testing.T) {
	for _, c := range []struct {
		n    int
		want api.Errno
	}{{65535, api.OK}, {65536, api.OK}, {65537, api.EARG}, {65600, api.EARG}} {
		l := []api.Record{with(func(x *api.Record) { x.Depends = wide(c.n) })}
		if e := status.Check(l); e != api.OK {
			t.Errorf("Check with %d bytes: %d", c.n, e)
		}
		head := len("Package: a\nStatus: installed\nVersion: 1\nDepends: ")
		s, e := status.Print(l)
		if e != c.want || e == api.OK && len(s) != head+c.n+1 || e != api.OK && s != "" {
			t.Errorf("Print with %d bytes: %d bytes %d", c.n, len(s), e)
		}
		if e != api.OK {
			continue
		}
		if got, e := status.Parse(s); !same(got, l) || e != api.OK {
			t.Errorf("Parse with %d bytes: %d", c.n, e)
		}
	}
}

func TestPrintMost(t *testing.T) {
	x := full
	x.Depends = slices.Repeat([][]api.Rel{slices.Repeat(rels("b"), 64)}, 64)
	x.Conflicts = slices.Repeat([]api.Rel{{Name: longest, Op: "<<", Version: longestVer}}, 64)
	x.Replaces = slices.Repeat([]string{longest}, 64)
	x.Confs = confs(numbered("/"+longest+longest+"%02d", 64)...)
	x.Pending = numbered("/"+longest+longest+"%02d", 64)
	x.Awaited = numbered("a%02d", 64)
	var l []api.Record
	for _, name := range numbered("a%02d", 64) {
		x.Name = name
		l = append(l, x)
	}
	s, e := status.Print(l)
	if e != api.OK || strings.Count(s, "\n\n") != 63 {
		t.Fatalf("Print: %d bytes %d", len(s), e)
	}
	if got, e := status.Parse(s); !same(got, l) || e != api.OK {
		t.Errorf("Parse: %d records %d", len(got), e)
	}
	if got, e := status.Parse(s + "\nPackage: b\nStatus: installed\nVersion: 1\n"); len(got) != 0 || e != api.EFORM {
		t.Errorf("Parse of 65: %d records %d", len(got), e)
	}
}

func TestParseRefuses(t *testing.T) {
	const (
		rest = "\nStatus: installed\nVersion: 1\n"
		a    = "Package: a" + rest
		b    = "Package: b" + rest
	)
	times := func(n int, s, between string) string { return strings.Repeat(s+between, n-1) + s }
	for _, s := range []string{
		"\n", a[:len(a)-1], a + "\n", "\n" + a, a + "\n\n" + b, a + b, a + " \n" + b, strings.ReplaceAll(a, "\n", "\r\n"),
		// Fields that are lacking, that are there twice, that nobody knows, in another order, or with other names.
		"Package: a\n", "Status: installed\nVersion: 1\n", "Package: a\nVersion: 1\n", "Package: a\nStatus: installed\n",
		a + "Version: 1\n", a + "X: y\n", a + "Description: c\n", "Status: installed\nPackage: a\nVersion: 1\n",
		"Package: a\nVersion: 1\nStatus: installed\n", "X: y\n" + a, strings.ToLower(a), strings.Replace(a, "V", "v", 1),
		a + "Replaces: b\nDepends: b\n", a + "Conflicts: b\nDepends: b\n", a + "depends: b\n", a + "CONFLICTS: b\n", a + "replaces: b\n",
		a + "Pending: a\n", a + "Awaited: a\n",
		// Fields that are empty, or have what they may not.
		"Package:\nStatus: installed\nVersion: 1\n", "Package: a\nStatus:\nVersion: 1\n", "Package: a\nStatus: installed\nVersion:\n",
		"Package: A\nStatus: installed\nVersion: 1\n", "Package: a b\nStatus: installed\nVersion: 1\n", "Package: a\n b\nStatus: installed\nVersion: 1\n",
		"Package: a\nStatus: Installed\nVersion: 1\n", "Package: a\nStatus: 7\nVersion: 1\n", "Package: a\nStatus: installed\nVersion: a\n",
		a + "Depends:\n", a + "Depends: b,c\n", a + "Depends: b (> 1)\n", a + "Depends: b |c\n", a + "Depends: b,\n c\n", a + "Depends: b, \n",
		a + "Conflicts:\n", a + "Conflicts: b | c\n", a + "Conflicts: b c\n",
		a + "Replaces:\n", a + "Replaces: b  c\n", a + "Replaces: b, c\n", a + "Replaces: B\n", a + "Replaces: b\n c\n",
		a + "Depends: " + times(65, "b", ", ") + "\n",
		a + "Conflicts: " + times(65, "b", ", ") + "\n",
		a + "Replaces: " + times(65, "b", " ") + "\n",
		// Conffiles.
		a + "Conffiles:\n", a + "Conffiles: /a " + sum + "\n", a + "Conffiles: x\n /a " + sum + "\n", a + "Conffiles:\n /a\n",
		a + "Conffiles:\n /a  " + sum + "\n", a + "Conffiles:\n  /a " + sum + "\n", a + "Conffiles:\n /a " + sum + " x\n", a + "Conffiles:\n a " + sum + "\n",
		a + "Conffiles:\n /a " + sum[1:] + "\n", a + "Conffiles:\n /a " + strings.ToUpper(sum) + "\n", a + "Conffiles:\n /a\t" + sum + "\n",
		a + "Conffiles:\n /b " + sum + "\n /a " + sum + "\n", a + "Conffiles:\n /a " + sum + "\n /a " + sum + "\n", a + "Conffiles:\n " + sum + " /a\n",
		a + "Conffiles:\n " + strings.Join(numbered("/a%02d", 65), " "+sum+"\n ") + " " + sum + "\n",
		// Triggers.
		a + "Triggers-Pending: a\n", a + "Triggers-Awaited: a\n",
		"Package: a\nStatus: triggers-pending\nVersion: 1\n", "Package: a\nStatus: triggers-awaited\nVersion: 1\n",
		"Package: a\nStatus: triggers-pending\nVersion: 1\nTriggers-Awaited: a\n", "Package: a\nStatus: triggers-awaited\nVersion: 1\nTriggers-Pending: a\n",
		"Package: a\nStatus: triggers-pending\nVersion: 1\nTriggers-Pending: a\nTriggers-Awaited: a\n",
		"Package: a\nStatus: triggers-pending\nVersion: 1\nTriggers-Pending: b a\n", "Package: a\nStatus: triggers-pending\nVersion: 1\nTriggers-Pending: a a\n",
		"Package: a\nStatus: triggers-awaited\nVersion: 1\nTriggers-Awaited: b a\n", "Package: a\nStatus: triggers-awaited\nVersion: 1\nTriggers-Awaited: /a\n",
		"Package: a\nStatus: triggers-awaited\nVersion: 1\nTriggers-Awaited: a\nTriggers-Pending: a\n",
		// Names that do not rise.
		b + "\n" + a, a + "\n" + a, a + "\n" + strings.Replace(a, "installed", "unpacked", 1),
		strings.Repeat(a+"\n", 100000) + a, strings.Repeat("\n", 100000), strings.Repeat("a", 100000), a + "Replaces:" + strings.Repeat(" b", 100000) + "\n",
	} {
		if got, e := status.Parse(s); len(got) != 0 || e != api.EFORM {
			t.Errorf("Parse(%.100q): %v %d", s, got, e)
		}
	}
}

// P8.4

func TestFind(t *testing.T) {
	l := []api.Record{rec("b", 1), rec("a", 2), rec("b", 3), rec("", 4)}
	for name, want := range map[string]int{"b": 0, "a": 1, "": 3, "c": -1, "A": -1, "ab": -1} {
		if got := status.Find(l, name); got != want {
			t.Errorf("Find(%q): %d, want %d", name, got, want)
		}
	}
	if got := status.Find(nil, ""); got != -1 {
		t.Errorf("Find in nothing: %d", got)
	}
}

func TestPut(t *testing.T) {
	x := rec("c", 1)
	for _, c := range []struct{ l, want []api.Record }{
		{nil, []api.Record{x}},
		{records("d"), []api.Record{x, rec("d", 7)}},
		{records("a"), []api.Record{rec("a", 7), x}},
		{records("a", "d"), []api.Record{rec("a", 7), x, rec("d", 7)}},
		{records("a", "c", "d"), []api.Record{rec("a", 7), x, rec("d", 7)}},
		{records("c"), []api.Record{x}},
		{records("c", "c"), []api.Record{x, rec("c", 7)}},
		// A list that does not rise.
		{records("d", "c"), []api.Record{rec("d", 7), x}},
		{records("b", "e", "a", "d"), []api.Record{rec("b", 7), x, rec("e", 7), rec("a", 7), rec("d", 7)}},
	} {
		if got := status.Put(c.l, x); !same(got, c.want) {
			t.Errorf("Put(%v): %v, want %v", c.l, got, c.want)
		}
	}
	// Neither limits nor forms are asked for.
	if got := status.Put(records(numbered("a%02d", 64)...), api.Record{Name: "A", State: 9}); len(got) != 65 || got[0].State != 9 {
		t.Errorf("Put to 64: %d", len(got))
	}
}

func TestDrop(t *testing.T) {
	l := []api.Record{rec("b", 1), rec("a", 2), rec("b", 3), rec("c", 4)}
	for _, c := range []struct {
		name string
		want []api.Record
	}{
		{"b", []api.Record{rec("a", 2), rec("c", 4)}},
		{"a", []api.Record{rec("b", 1), rec("b", 3), rec("c", 4)}},
		{"c", l[:3]},
		{"d", l},
		{"", l},
	} {
		if got := status.Drop(l, c.name); !same(got, c.want) {
			t.Errorf("Drop(%q): %v, want %v", c.name, got, c.want)
		}
	}
	if got := status.Drop(records("a", "a"), "a"); len(got) != 0 {
		t.Errorf("Drop of all: %v", got)
	}
	if got := status.Drop(nil, ""); len(got) != 0 {
		t.Errorf("Drop from nothing: %v", got)
	}
}

func TestSettled(t *testing.T) {
	a := []string{"a"}
	for _, c := range []struct {
		pending, awaited []string
		want             int
	}{
		{nil, nil, 7}, {[]string{}, []string{}, 7}, {a, nil, 6}, {a, []string{}, 6}, {nil, a, 5}, {a, a, 5}, {[]string{""}, nil, 6}, {nil, []string{""}, 5},
	} {
		for state := -1; state < 10; state++ {
			if got := status.Settled(api.Record{State: state, Pending: c.pending, Awaited: c.awaited}); got != c.want {
				t.Errorf("Settled(%q, %q): %d, want %d", c.pending, c.awaited, got, c.want)
			}
		}
	}
}

// Arguments stay as they are, with what lies behind their ends (rule 4).
func TestArgumentsStay(t *testing.T) {
	l := append(records("a", "c", "d", "e"), full)
	before := slices.Clone(l)
	for _, part := range [][]api.Record{l[:2], l[:0], l} {
		status.Put(part, rec("b", 1))
		status.Put(part, rec("c", 1))
		status.Put(part, rec("z", 1))
		status.Drop(part, "a")
		status.Drop(part, "x")
		status.Print(part)
		status.Check(part)
	}
	if !same(l, before) {
		t.Errorf("changed: %v", l)
	}
}

// P8.5

// drawnNames is at most n names that rise.
func drawnNames(r *rand.Rand, n int) []string {
	var out []string
	for range r.IntN(n + 1) {
		out = append(out, []string{"a", "b", "c+", "0.d", "lib-e", "f1"}[r.IntN(6)])
	}
	slices.Sort(out)
	return slices.Compact(out)
}

func drawnRels(r *rand.Rand, least, n int) []api.Rel {
	var out []api.Rel
	for range least + r.IntN(n) {
		x := api.Rel{Name: []string{"a", "b", "c+"}[r.IntN(3)]}
		if r.IntN(2) > 0 {
			x.Op, x.Version = []string{"<<", "<=", "=", ">=", ">>"}[r.IntN(5)], []string{"1", "2:1-1", "1~b"}[r.IntN(3)]
		}
		out = append(out, x)
	}
	return out
}

// drawn is a right record.
func drawn(r *rand.Rand, name string) api.Record {
	x := rec(name, 1+r.IntN(7))
	x.Version = []string{"1", "0:1-0", "2:1-1", "1.0~rc1"}[r.IntN(4)]
	for range r.IntN(3) {
		x.Depends = append(x.Depends, drawnRels(r, 1, 3))
	}
	x.Conflicts = drawnRels(r, 0, 3)
	for range r.IntN(4) {
		x.Replaces = append(x.Replaces, []string{"a", "b"}[r.IntN(2)])
	}
	for _, s := range drawnNames(r, 3) {
		x.Confs = append(x.Confs, api.Conf{Path: "/" + s, Sum: fmt.Sprintf("%016x", r.Uint64())})
	}
	if x.State == 6 || x.State == 5 {
		x.Pending = append([]string{"/", "/a/b"}[r.IntN(2):], drawnNames(r, 3)...)
	}
	if x.State == 5 {
		x.Awaited = append([]string{"0"}, drawnNames(r, 3)...)
	}
	if x.State == 5 && r.IntN(2) > 0 {
		x.Pending = nil
	}
	return x
}

func drawnList(r *rand.Rand) []api.Record {
	var l []api.Record
	for _, name := range drawnNames(r, 6) {
		l = append(l, drawn(r, name))
	}
	return l
}

func TestPrintedIsParsed(t *testing.T) {
	r := rand.New(rand.NewPCG(8, 5))
	for range 3000 {
		l := drawnList(r)
		s, e := status.Print(l)
		if e != api.OK {
			t.Fatalf("Print(%v): %d", l, e)
		}
		if got, e := status.Parse(s); !same(got, l) || e != api.OK {
			t.Fatalf("Parse(%q): %v %d, want %v", s, got, e, l)
		}
	}
}

// What is one byte beside a text is either what other records print, or not
// parsed.
func TestParsedIsPrinted(t *testing.T) {
	count := 0
	for _, c := range printed {
		near(c.s, func(s string) {
			l, e := status.Parse(s)
			if e != api.OK {
				if e != api.EFORM || len(l) != 0 {
					t.Fatalf("Parse(%q): %v %d", s, l, e)
				}
				return
			}
			count++
			if again, e := status.Print(l); again != s || e != api.OK {
				t.Fatalf("Print(%v): %q %d, want %q", l, again, e, s)
			}
		})
	}
	if count < 1000 {
		t.Errorf("only %d texts", count)
	}
}

// P8.6

func TestPutIsFound(t *testing.T) {
	r := rand.New(rand.NewPCG(8, 6))
	for range 3000 {
		l := drawnList(r)
		for range 4 {
			x := drawn(r, []string{"a", "b", "c+", "0.d", "zz", "-", "0"}[r.IntN(5)])
			had := status.Find(l, x.Name) >= 0
			next := status.Put(l, x)
			i := status.Find(next, x.Name)
			if i < 0 || !same(next[i:i+1], []api.Record{x}) {
				t.Fatalf("Put(%v, %v): %v", l, x, next)
			}
			if status.Check(next) != api.OK || had != (len(next) == len(l)) || !same(status.Drop(next, x.Name), status.Drop(l, x.Name)) {
				t.Fatalf("Put(%v, %v): %v", l, x, next)
			}
			l = next
		}
	}
	l := records(numbered("a%02d", 64)...)
	if e := status.Check(status.Put(l, rec("a07", 1))); e != api.OK {
		t.Errorf("64 with one in place: %d", e)
	}
	if e := status.Check(status.Put(l, rec("a070", 1))); e != api.EFULL {
		t.Errorf("64 and one more: %d", e)
	}
}

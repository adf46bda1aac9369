package trigs_test

import (
	"fmt"
	"math/rand/v2"
	"reflect"
	"regexp"
	"slices"
	"strings"
	"testing"

	"cellarer/api"
	"cellarer/path"
	"cellarer/trigs"
)

var (
	longestPath = "/" + strings.Repeat("a", 199)
	longestName = strings.Repeat("a", 60)
)

// near gives texts that differ from one by one byte: one that is lacking, one
// in another's place, or one more.
func near(s string, f func(string)) {
	const others = " \n\t\x00\x7f\xffaAb0/#-+.,"
	for i := range len(s) + 1 {
		for j := range len(others) {
			f(s[:i] + others[j:j+1] + s[i:])
		}
		if i == len(s) {
			return
		}
		f(s[:i] + s[i+1:])
		for j := range len(others) {
			f(s[:i] + others[j:j+1] + s[i+1:])
		}
	}
}

func in(trigger, pkg string) api.Interest { return api.Interest{Trigger: trigger, Package: pkg} }

func unawaited(trigger, pkg string) api.Interest {
	return api.Interest{Trigger: trigger, Package: pkg, Noawait: true}
}

func fired(trigger string, by ...string) api.Fired { return api.Fired{Trigger: trigger, By: by} }

func manyIn(n int) []api.Interest {
	var out []api.Interest
	for i := range n {
		out = append(out, in("t", fmt.Sprintf("a%03d", i)))
	}
	return out
}

func manyNames(n int) []string {
	var out []string
	for i := range n {
		out = append(out, fmt.Sprintf("b%03d", i))
	}
	return out
}

func manyFired(n int) []api.Fired {
	var out []api.Fired
	for i := range n {
		out = append(out, fired(fmt.Sprintf("/a%03d", i), "x", "y"))
	}
	return out
}

// sameFired takes lists that are nil and empty as equal.
func sameFired(a, b []api.Fired) bool {
	return slices.EqualFunc(a, b, func(x, y api.Fired) bool {
		return x.Trigger == y.Trigger && slices.Equal(x.By, y.By)
	})
}

// P12.1

var rightTriggers = []string{"/", "/a", "/a/b", "/A_#", longestPath, "a", "a-b.c+d", "0", longestName}

var wrongTriggers = []string{
	"", "A", "-a", ".", "a b", "a_b", "a/b", "/a/", "//", "/a//b", "/.", "/a/..", "/a b", "/a\n", "/\x7f", longestPath + "a", longestName + "a", "a\n", " a",
}

var rightNames = []string{"a", "0", "a-b", "a+", "a.", longestName}

var wrongNames = []string{"", "A", "-", "-a", "+a", ".a", "a b", "a_b", "/a", "a/noawait", "a\n", longestName + "a"}

func TestCheck(t *testing.T) {
	for _, c := range []struct {
		l    []api.Interest
		want api.Errno
	}{
		{nil, api.OK},
		{[]api.Interest{}, api.OK},
		{[]api.Interest{in("/", "a"), in("/", "b"), in("/a", "a"), in("a", "a"), in("a+", "a"), in("b", "0")}, api.OK},
		{[]api.Interest{in("/a", "b"), in("/a+", "a"), in("/a/b", "a")}, api.OK},
		{[]api.Interest{in("a", "b"), in("a", "b")}, api.EARG},
		{[]api.Interest{in("a", "b"), unawaited("a", "b")}, api.EARG},
		{[]api.Interest{in("a", "b"), in("a", "a")}, api.EARG},
		{[]api.Interest{in("b", "a"), in("a", "b")}, api.EARG},
		{[]api.Interest{in("b", "a"), in("a", "a")}, api.EARG},
		{[]api.Interest{in("a", "a"), in("c", "a"), in("b", "a")}, api.EARG},
		{[]api.Interest{in("a", "a"), in("b", "a"), in("b", "a")}, api.EARG},
		{manyIn(64), api.OK},
		{manyIn(65), api.EFULL},
		{make([]api.Interest, 65), api.EFULL},
		{make([]api.Interest, 64), api.EARG},
	} {
		if got := trigs.Check(c.l); got != c.want {
			t.Errorf("Check(%v): %d, want %d", c.l, got, c.want)
		}
		if s, e := trigs.Print(c.l); e != c.want || e != api.OK && s != "" {
			t.Errorf("Print(%v): %q %d, want %d", c.l, s, e, c.want)
		}
	}
	for _, x := range rightTriggers {
		if got := trigs.Check([]api.Interest{in(x, "a")}); got != api.OK {
			t.Errorf("Check with the trigger %q: %d", x, got)
		}
	}
	for _, x := range rightNames {
		if got := trigs.Check([]api.Interest{unawaited("a", x)}); got != api.OK {
			t.Errorf("Check with the package %q: %d", x, got)
		}
	}
	for _, x := range wrongTriggers {
		if got := trigs.Check([]api.Interest{in(x, "a")}); got != api.EARG {
			t.Errorf("Check with the trigger %q: %d", x, got)
		}
	}
	for _, x := range wrongNames {
		for _, l := range [][]api.Interest{{in("a", x)}, {in("/", "a"), in("a", x)}, {in("a", x), in("z", "z")}} {
			if got := trigs.Check(l); got != api.EARG {
				t.Errorf("Check(%v): %d", l, got)
			}
		}
	}
}

// printed are interests, and what is printed of them.
var printed = []struct {
	l []api.Interest
	s string
}{
	{nil, ""},
	{[]api.Interest{in("a", "b")}, "a b\n"},
	{[]api.Interest{unawaited("/usr", "a")}, "/usr a/noawait\n"},
	{[]api.Interest{in("/", "b"), unawaited("/", "c"), in("/noawait", "a"), in("a", "a"), unawaited("a", "b-c"), in("noawait", "noawait")},
		"/ b\n/ c/noawait\n/noawait a\na a\na b-c/noawait\nnoawait noawait\n"},
	{[]api.Interest{unawaited(longestPath, longestName)}, longestPath + " " + longestName + "/noawait\n"},
}

func TestPrint(t *testing.T) {
	for _, c := range printed {
		if got, e := trigs.Print(c.l); got != c.s || e != api.OK {
			t.Errorf("Print(%v): %q %d, want %q", c.l, got, e, c.s)
		}
	}
}

func TestParse(t *testing.T) {
	for _, c := range printed {
		if got, e := trigs.Parse(c.s); !slices.Equal(got, c.l) || e != api.OK {
			t.Errorf("Parse(%q): %v %d, want %v", c.s, got, e, c.l)
		}
	}
}

func TestParseRefuses(t *testing.T) {
	s, _ := trigs.Print(manyIn(64))
	for _, s := range []string{
		"\n", " \n", "a b", "a b\n\n", "\na b\n", "a b\r\n", "a\n", "a \n", " a\n", " a b\n", "a  b\n", "a b \n", "a\tb\n", "a b c\n", "a b\nc",
		"a /noawait\n", "a b /noawait\n", "a b/noawait/noawait\n", "a b/await\n", "a b/Noawait\n", "a b/\n", "a b/noawai\n", "a b/noawaits\n", "a b/noawait \n",
		"a/noawait b\n", "A b\n", "a B\n", "a -\n", "/a/ b\n", "/a/b c/d\n", "//a b\n", "/. b\n", longestPath + "a b\n", longestName + "a b\n", "a " + longestName + "a\n",
		"b a\na a\n", "a b\na a\n", "a a\na a\n", "a a\na a/noawait\n", "a a/noawait\na a\n", "a a\n\na b\n",
		s + "t b\n", "/ a\n" + s, strings.Repeat("a b\n", 100000), strings.Repeat("\n", 100000), strings.Repeat("a", 100000) + "\n", strings.Repeat("/noawait", 100000) + "\n",
	} {
		if got, e := trigs.Parse(s); len(got) != 0 || e != api.EFORM {
			t.Errorf("Parse(%.100q): %v %d", s, got, e)
		}
	}
}

// P12.2

func TestCheckFired(t *testing.T) {
	for _, c := range []struct {
		l    []api.Fired
		want api.Errno
	}{
		{nil, api.OK},
		{[]api.Fired{}, api.OK},
		{[]api.Fired{fired("/"), fired("/a", "b", "b+", "bc"), fired("/a/b"), fired("a", "0", "a")}, api.OK},
		{[]api.Fired{{Trigger: "a", By: []string{}}}, api.OK},
		{[]api.Fired{fired("a"), fired("a")}, api.EARG},
		{[]api.Fired{fired("a", "b"), fired("a", "c")}, api.EARG},
		{[]api.Fired{fired("b"), fired("a")}, api.EARG},
		{[]api.Fired{fired("a"), fired("c"), fired("b")}, api.EARG},
		{[]api.Fired{fired("a", "b", "b")}, api.EARG},
		{[]api.Fired{fired("a", "c", "b")}, api.EARG},
		{[]api.Fired{fired("a", "b", "d", "c")}, api.EARG},
		{manyFired(64), api.OK},
		{manyFired(65), api.EFULL},
		{make([]api.Fired, 65), api.EFULL},
		{make([]api.Fired, 64), api.EARG},
		{[]api.Fired{fired("a", manyNames(64)...)}, api.OK},
		{[]api.Fired{fired("a", manyNames(65)...)}, api.EFULL},
		{[]api.Fired{fired("a", make([]string, 65)...)}, api.EFULL},
		{[]api.Fired{fired("a", make([]string, 64)...)}, api.EARG},
		// What is too long goes ahead of what may not be, wherever they stand.
		{[]api.Fired{fired(""), fired("a", manyNames(65)...)}, api.EFULL},
		{[]api.Fired{fired("b"), fired("a", "-"), fired("", make([]string, 65)...)}, api.EFULL},
	} {
		if got := trigs.CheckFired(c.l); got != c.want {
			t.Errorf("CheckFired(%v): %d, want %d", c.l, got, c.want)
		}
		if s, e := trigs.PrintFired(c.l); e != c.want || e != api.OK && s != "" {
			t.Errorf("PrintFired(%v): %q %d, want %d", c.l, s, e, c.want)
		}
	}
	for _, x := range rightTriggers {
		if got := trigs.CheckFired([]api.Fired{fired(x, "a")}); got != api.OK {
			t.Errorf("CheckFired with the trigger %q: %d", x, got)
		}
	}
	for _, x := range rightNames {
		if got := trigs.CheckFired([]api.Fired{fired("a", x)}); got != api.OK {
			t.Errorf("CheckFired with %q: %d", x, got)
		}
	}
	for _, x := range wrongTriggers {
		if got := trigs.CheckFired([]api.Fired{fired(x)}); got != api.EARG {
			t.Errorf("CheckFired with the trigger %q: %d", x, got)
		}
	}
	for _, x := range wrongNames {
		for _, l := range [][]api.Fired{{fired("a", x)}, {fired("/"), fired("a", x)}, {fired("a", "0", x)}, {fired("a", x), fired("b")}} {
			if got := trigs.CheckFired(l); got != api.EARG {
				t.Errorf("CheckFired(%v): %d", l, got)
			}
		}
	}
}

// printedFired are fired triggers, and what is printed of them.
var printedFired = []struct {
	l []api.Fired
	s string
}{
	{nil, ""},
	{[]api.Fired{fired("a")}, "a -\n"},
	{[]api.Fired{fired("/a", "b")}, "/a b\n"},
	{[]api.Fired{fired("/"), fired("/a/-", "b", "c+", "d-e"), fired("a", "0", "a"), fired("b")}, "/ -\n/a/- b c+ d-e\na 0 a\nb -\n"},
	{[]api.Fired{fired(longestPath, longestName)}, longestPath + " " + longestName + "\n"},
}

func TestPrintFired(t *testing.T) {
	for _, c := range printedFired {
		if got, e := trigs.PrintFired(c.l); got != c.s || e != api.OK {
			t.Errorf("PrintFired(%v): %q %d, want %q", c.l, got, e, c.s)
		}
	}
}

func TestParseFired(t *testing.T) {
	for _, c := range printedFired {
		if got, e := trigs.ParseFired(c.s); !sameFired(got, c.l) || e != api.OK {
			t.Errorf("ParseFired(%q): %v %d, want %v", c.s, got, e, c.l)
		}
	}
}

func TestParseFiredRefuses(t *testing.T) {
	s, _ := trigs.PrintFired(manyFired(64))
	names := strings.Join(manyNames(64), " ")
	for _, s := range []string{
		"\n", " \n", "a -", "a -\n\n", "\na -\n", "a -\r\n", "a\n", "a \n", "-\n", " -\n", " a -\n", "a  -\n", "a - \n", "a\t-\n", "a --\n", "a - -\n", "a - b\n", "a b -\n", "a -b\n",
		"a  b\n", "a b \n", "a b  c\n", "a c b\n", "a b b\n", "a B\n", "a b/noawait\n", "a /b\n", "A -\n", "- -\n", "/a/ -\n", "// -\n",
		longestPath + "a -\n", longestName + "a -\n", "a " + longestName + "a\n", "a " + names + " c\n",
		"b -\na -\n", "a -\na -\n", "a b\na c\n", "a -\na b\n", "a -\n\nb -\n",
		s + "/b -\n", "/ -\n" + s, strings.Repeat("a -\n", 100000), strings.Repeat("\n", 100000), "a" + strings.Repeat(" b", 100000) + "\n", strings.Repeat(" ", 100000) + "\n",
	} {
		if got, e := trigs.ParseFired(s); len(got) != 0 || e != api.EFORM {
			t.Errorf("ParseFired(%.100q): %v %d", s, got, e)
		}
	}
	if got, e := trigs.ParseFired("a " + names + "\n"); !sameFired(got, []api.Fired{fired("a", manyNames(64)...)}) || e != api.OK {
		t.Errorf("ParseFired of 64 names: %v %d", got, e)
	}
}

// P12.3

func TestOfAndFor(t *testing.T) {
	l := []api.Interest{in("b", "x"), in("a", "y"), unawaited("b", "y"), in("b", "x"), in("", ""), unawaited("x", "b")}
	for _, c := range []struct {
		name string
		of   []api.Interest
		to   []api.Interest
	}{
		{"x", []api.Interest{l[0], l[3]}, l[5:]},
		{"y", l[1:3], nil},
		{"a", nil, l[1:2]},
		{"b", l[5:], []api.Interest{l[0], l[2], l[3]}},
		{"", l[4:5], l[4:5]},
		{"c", nil, nil},
		{"/", nil, nil},
	} {
		if got := trigs.Of(l, c.name); !slices.Equal(got, c.of) {
			t.Errorf("Of %q: %v, want %v", c.name, got, c.of)
		}
		if got := trigs.For(l, c.name); !slices.Equal(got, c.to) {
			t.Errorf("For %q: %v, want %v", c.name, got, c.to)
		}
	}
	if got := trigs.Of(nil, ""); len(got) != 0 {
		t.Errorf("Of nothing: %v", got)
	}
	if got := trigs.For(nil, ""); len(got) != 0 {
		t.Errorf("For nothing: %v", got)
	}
}

func TestSet(t *testing.T) {
	for _, c := range []struct {
		l    []api.Interest
		pkg  string
		own  []api.Interest
		want []api.Interest
	}{
		{nil, "p", nil, nil},
		{nil, "p", []api.Interest{in("b", "x"), in("a", "y")}, []api.Interest{in("a", "p"), in("b", "p")}},
		{[]api.Interest{in("a", "p"), in("a", "q"), in("b", "p")}, "p", nil, []api.Interest{in("a", "q")}},
		{[]api.Interest{in("a", "p"), in("a", "q"), in("b", "p")}, "p", []api.Interest{unawaited("c", "")}, []api.Interest{in("a", "q"), unawaited("c", "p")}},
		// By the trigger, and then by the package.
		{[]api.Interest{in("a", "o"), in("a", "q"), in("b", "a")}, "p", []api.Interest{in("a", "")},
			[]api.Interest{in("a", "o"), in("a", "p"), in("a", "q"), in("b", "a")}},
		{[]api.Interest{in("a", "z"), in("b", "a")}, "p", []api.Interest{in("b", "")}, []api.Interest{in("a", "z"), in("b", "a"), in("b", "p")}},
		{[]api.Interest{in("b", "a")}, "p", []api.Interest{in("a", "z"), in("c", "z"), in("b", "z")},
			[]api.Interest{in("a", "p"), in("b", "a"), in("b", "p"), in("c", "p")}},
		// Of one trigger the first one is taken.
		{nil, "p", []api.Interest{in("a", "x"), unawaited("a", "y"), in("b", "z"), in("a", "z")}, []api.Interest{in("a", "p"), in("b", "p")}},
		{nil, "p", []api.Interest{unawaited("a", "x"), in("a", "y")}, []api.Interest{unawaited("a", "p")}},
		{[]api.Interest{unawaited("a", "p"), in("a", "q")}, "p", []api.Interest{in("a", "p"), unawaited("a", "p")}, []api.Interest{in("a", "p"), in("a", "q")}},
		// The others stay as they are, whether they rise or not.
		{[]api.Interest{in("c", "q"), in("a", "q"), in("c", "q"), in("p", "p")}, "p", []api.Interest{in("b", "")},
			[]api.Interest{in("b", "p"), in("c", "q"), in("a", "q"), in("c", "q")}},
		{[]api.Interest{in("a", "q"), in("c", "q"), in("b", "q")}, "p", []api.Interest{in("b", ""), in("d", "")},
			[]api.Interest{in("a", "q"), in("b", "p"), in("c", "q"), in("b", "q"), in("d", "p")}},
		// Neither limits nor forms are asked for.
		{slices.Repeat([]api.Interest{in("", "-")}, 100), "", []api.Interest{in(" ", "")}, append(slices.Repeat([]api.Interest{in("", "-")}, 100), in(" ", ""))},
		{[]api.Interest{in("a b", "c"), in("a", "b c")}, "b", []api.Interest{in("a", "")}, []api.Interest{in("a", "b"), in("a b", "c"), in("a", "b c")}},
	} {
		if got := trigs.Set(c.l, c.pkg, c.own); !slices.Equal(got, c.want) {
			t.Errorf("Set(%v, %q, %v): %v, want %v", c.l, c.pkg, c.own, got, c.want)
		}
	}
}

// What Set makes of interests that may be may be, if it is not too long.
func TestSetKeepsOrder(t *testing.T) {
	r := rand.New(rand.NewPCG(12, 3))
	var l []api.Interest
	for range 5000 {
		pkg := []string{"a", "b", "c", "d"}[r.IntN(4)]
		var own []api.Interest
		for range r.IntN(5) {
			own = append(own, api.Interest{Trigger: rightTriggers[r.IntN(len(rightTriggers))], Package: "x", Noawait: r.IntN(2) > 0})
		}
		others := slices.DeleteFunc(slices.Clone(l), func(x api.Interest) bool { return x.Package == pkg })
		l = trigs.Set(l, pkg, own)
		if e := trigs.Check(l); e != api.OK {
			t.Fatalf("%v: %d", l, e)
		}
		if got := slices.DeleteFunc(slices.Clone(l), func(x api.Interest) bool { return x.Package == pkg }); !slices.Equal(got, others) {
			t.Fatalf("others: %v, want %v", got, others)
		}
		if len(trigs.Set(l, pkg, nil)) != len(others) {
			t.Fatalf("Set of nothing in %v", l)
		}
		for _, x := range own {
			i := slices.IndexFunc(own, func(y api.Interest) bool { return y.Trigger == x.Trigger })
			want := api.Interest{Trigger: x.Trigger, Package: pkg, Noawait: own[i].Noawait}
			if !slices.Contains(trigs.Of(l, pkg), want) {
				t.Fatalf("%v has no %v", l, want)
			}
		}
	}
}

func TestFiles(t *testing.T) {
	l := []api.Interest{
		in("/usr", "b"), unawaited("/usr", "a"), in("/usr/share", "a"), in("/", "a"), in("a", "a"), in("/usr/", "a"), in("usr", "a"), in("/usr/share", "c"), in("/etc", "a"),
	}
	for _, c := range []struct {
		l    []api.Interest
		p    string
		want []string
	}{
		{l, "/usr/b", []string{"/", "/usr"}},
		{l, "/usr", []string{"/", "/usr"}},
		{l, "/usr/share/x/y", []string{"/", "/usr", "/usr/share"}},
		{l, "/usr/share", []string{"/", "/usr", "/usr/share"}},
		{l, "/usr/sharee", []string{"/", "/usr"}},
		{l, "/usrb", []string{"/"}},
		{l, "/", []string{"/"}},
		{l, "/etc/a", []string{"/", "/etc"}},
		// Names, and paths that may not be, are no places of files.
		{l, "a", nil},
		{l, "usr/b", nil},
		{l, "", nil},
		{l, "/usr//b", []string{"/", "/usr"}},
		{l, "/usr/", []string{"/"}},
		{[]api.Interest{unawaited("/usr", "a")}, "/usr/b", []string{"/usr"}},
		{[]api.Interest{in("/usr", "a")}, "/", nil},
		{[]api.Interest{in(longestPath, "a")}, longestPath, []string{longestPath}},
		{[]api.Interest{in(longestPath+"a", "a")}, longestPath + "a", nil},
		{nil, "/", nil},
	} {
		if got := trigs.Files(c.l, c.p); !slices.Equal(got, c.want) {
			t.Errorf("Files of %q: %q, want %q", c.p, got, c.want)
		}
	}
}

// For paths that may be, Files holds to the parents of a path.
func TestFilesAreParents(t *testing.T) {
	paths := []string{"/", "/a", "/a/b", "/a/b/c", "/ab", "/a/bc", "/b", "/b/a"}
	var l []api.Interest
	for _, p := range slices.Backward(paths) {
		l = append(l, in(p, "x"), in(p, "y"))
	}
	for _, p := range paths {
		want := path.Sorted(append(path.Parents(p), p))
		if got := trigs.Files(l, p); !slices.Equal(got, want) {
			t.Errorf("Files of %q: %q, want %q", p, got, want)
		}
	}
}

func TestFire(t *testing.T) {
	for _, c := range []struct {
		l           []api.Fired
		trigger, by string
		want        []api.Fired
	}{
		{nil, "a", "", []api.Fired{fired("a")}},
		{nil, "a", "x", []api.Fired{fired("a", "x")}},
		{[]api.Fired{fired("a")}, "a", "x", []api.Fired{fired("a", "x")}},
		{[]api.Fired{fired("a", "x")}, "a", "x", []api.Fired{fired("a", "x")}},
		{[]api.Fired{fired("a", "x")}, "a", "", []api.Fired{fired("a", "x")}},
		{[]api.Fired{fired("a", "b", "d")}, "a", "c", []api.Fired{fired("a", "b", "c", "d")}},
		{[]api.Fired{fired("a", "b", "d")}, "a", "a", []api.Fired{fired("a", "a", "b", "d")}},
		{[]api.Fired{fired("a"), fired("c")}, "b", "x", []api.Fired{fired("a"), fired("b", "x"), fired("c")}},
		{[]api.Fired{fired("a"), fired("c")}, "d", "", []api.Fired{fired("a"), fired("c"), fired("d")}},
		{[]api.Fired{fired("a"), fired("c")}, "/", "", []api.Fired{fired("/"), fired("a"), fired("c")}},
		// The first of several, and lists that do not rise.
		{[]api.Fired{fired("a"), fired("b", "z"), fired("b", "y")}, "b", "x", []api.Fired{fired("a"), fired("b", "x", "z"), fired("b", "y")}},
		{[]api.Fired{fired("a", "z", "y", "z")}, "a", "x", []api.Fired{fired("a", "x", "y", "z")}},
		{[]api.Fired{fired("a", "z", "y", "z")}, "a", "", []api.Fired{fired("a", "z", "y", "z")}},
		{[]api.Fired{fired("d"), fired("a")}, "b", "", []api.Fired{fired("b"), fired("d"), fired("a")}},
		{[]api.Fired{fired("d"), fired("b")}, "b", "x", []api.Fired{fired("d"), fired("b", "x")}},
		// Neither limits nor forms are asked for.
		{[]api.Fired{fired("", " ")}, "", "-", []api.Fired{fired("", " ", "-")}},
		{[]api.Fired{fired("a", manyNames(64)...)}, "a", "c", []api.Fired{fired("a", append(manyNames(64), "c")...)}},
		{manyFired(64), "/b", "", append(manyFired(64), fired("/b"))},
	} {
		if got := trigs.Fire(c.l, c.trigger, c.by); !sameFired(got, c.want) {
			t.Errorf("Fire(%v, %q, %q): %v, want %v", c.l, c.trigger, c.by, got, c.want)
		}
	}
}

// Arguments stay as they are, with what lies behind their ends (rule 4).
func TestArgumentsStay(t *testing.T) {
	interests := func() []api.Interest { return append(manyIn(4), in("u", "a000")) }
	firings := func() []api.Fired {
		l := manyFired(4)
		for i := range l {
			l[i].By = append(make([]string, 0, 8), "x", "b")
		}
		return l
	}
	l, own, f := interests(), interests(), firings()
	behind := func() [][]string {
		var out [][]string
		for _, x := range f {
			out = append(out, x.By[:8])
		}
		return out
	}
	for i := range 6 {
		trigs.Set(l[:min(i, len(l))], "a001", own[:min(i, len(own))])
		trigs.Set(l[:min(i, len(l))], "zz", own[:min(i, len(own))])
		trigs.Of(l[:min(i, len(l))], "a002")
		trigs.For(l[:min(i, len(l))], "t")
		trigs.Files(l[:min(i, len(l))], "/t")
		trigs.Fire(f[:min(i, len(f))], "/a001", "c")
		trigs.Fire(f[:min(i, len(f))], "/a001", "")
		trigs.Fire(f[:min(i, len(f))], "/a0015", "c")
		trigs.Fire(f[:min(i, len(f))], "/z", "c")
		trigs.Print(l)
		trigs.PrintFired(f)
	}
	if !slices.Equal(l, interests()) || !slices.Equal(own, interests()) || !sameFired(f, firings()) {
		t.Errorf("changed: %v %v %v", l, own, f)
	}
	for _, by := range behind() {
		if want := []string{"x", "b", "", "", "", "", "", ""}; !slices.Equal(by, want) {
			t.Errorf("changed behind the end: %q", by)
		}
	}
}

// P12.4

func TestPrintedIsParsed(t *testing.T) {
	r := rand.New(rand.NewPCG(12, 4))
	names := []string{"a", "a+", "a-b", "b", "c.d"}
	for range 5000 {
		var l []api.Interest
		var f []api.Fired
		for _, trigger := range []string{"/", "/a", "/noawait", "a", "b"} {
			var by []string
			for _, name := range names {
				if r.IntN(3) == 0 {
					by = append(by, name)
				}
				if r.IntN(3) == 0 {
					l = append(l, api.Interest{Trigger: trigger, Package: name, Noawait: r.IntN(2) > 0})
				}
			}
			if r.IntN(2) > 0 {
				f = append(f, fired(trigger, by...))
			}
		}
		s, e := trigs.Print(l)
		if e != api.OK {
			t.Fatalf("Print(%v): %d", l, e)
		}
		if got, e := trigs.Parse(s); !slices.Equal(got, l) || e != api.OK {
			t.Fatalf("Parse(%q): %v %d, want %v", s, got, e, l)
		}
		s, e = trigs.PrintFired(f)
		if e != api.OK {
			t.Fatalf("PrintFired(%v): %d", f, e)
		}
		if got, e := trigs.ParseFired(s); !sameFired(got, f) || e != api.OK {
			t.Fatalf("ParseFired(%q): %v %d, want %v", s, got, e, f)
		}
	}
	s, _ := trigs.Print(manyIn(64))
	if got, e := trigs.Parse(s); !slices.Equal(got, manyIn(64)) || e != api.OK {
		t.Errorf("Parse of 64: %v %d", got, e)
	}
	s, _ = trigs.PrintFired(manyFired(64))
	if got, e := trigs.ParseFired(s); !sameFired(got, manyFired(64)) || e != api.OK {
		t.Errorf("ParseFired of 64: %v %d", got, e)
	}
}

const triggerForm = `([a-z0-9][a-z0-9+.-]*|/([!-.0-~]+(/[!-.0-~]+)*)?)`

// forms are the texts of interests of short triggers and names, but for their
// order.
var (
	forms      = regexp.MustCompile(`^(` + triggerForm + ` [a-z0-9][a-z0-9+.-]*(/noawait)?\n)*$`)
	firedForms = regexp.MustCompile(`^(` + triggerForm + ` (-|[a-z0-9][a-z0-9+.-]*( [a-z0-9][a-z0-9+.-]*)*)\n)*$`)
	dotted     = regexp.MustCompile(`(^|\n)/([!-~]*/)?\.\.?[/ ]`)
)

// rises tells whether the lines of a text of one of the forms rise, and the
// words behind the first one of each line too.
func rises(s string, pairs bool) bool {
	var last []string
	for _, line := range strings.Split(strings.TrimSuffix(s, "\n"), "\n") {
		words := strings.Split(strings.TrimSuffix(line, "/noawait"), " ")
		key := words[:1]
		if pairs {
			key = words
		}
		if slices.Compare(last, key) >= 0 {
			return false
		}
		for i := 2; i < len(words); i++ {
			if words[i-1] >= words[i] {
				return false
			}
		}
		last = key
	}
	return true
}

// held holds all texts beside one to a form, and what is read of them to being
// printed again.
func held[T any](t *testing.T, s string, may func(string) bool, parse func(string) ([]T, api.Errno), show func([]T) (string, api.Errno)) {
	t.Helper()
	count := 0
	near(s, func(s string) {
		l, e := parse(s)
		if want := may(s); want != (e == api.OK) || !want && (e != api.EFORM || !reflect.DeepEqual(l, []T(nil))) {
			t.Fatalf("parsed of %q: %v %d", s, l, e)
		}
		if e != api.OK {
			return
		}
		count++
		if again, e := show(l); again != s || e != api.OK {
			t.Fatalf("printed of %v: %q %d, want %q", l, again, e, s)
		}
	})
	if count < 10 {
		t.Errorf("only %d texts beside %q", count, s)
	}
}

// What is one byte beside a text is either what others print, or not parsed.
func TestParsedIsPrinted(t *testing.T) {
	for _, s := range []string{"/usr a/noawait\n", "/ b\n/a/b c/noawait\na b\na b-c\n", "b a\n"} {
		held(t, s, func(s string) bool {
			return s == "" || forms.MatchString(s) && !dotted.MatchString(s) && rises(s, true)
		}, trigs.Parse, trigs.Print)
	}
	for _, s := range []string{"/usr -\n", "/ -\n/a/b b c-d\na b\nb c d e\n", "b a\n"} {
		held(t, s, func(s string) bool {
			return s == "" || firedForms.MatchString(s) && !dotted.MatchString(s) && rises(s, false)
		}, trigs.ParseFired, trigs.PrintFired)
	}
}

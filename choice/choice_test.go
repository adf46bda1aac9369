package choice_test

import (
	"fmt"
	"math"
	"slices"
	"strings"
	"testing"

	"cellarer/alts"
	"cellarer/api"
	"cellarer/choice"
)

var (
	longestPath = "/" + strings.Repeat("a", 199)
	longestName = strings.Repeat("a", 60)
)

// vi is an alternative that has two slaves, and /opt/b as its best choice.
func vi() api.Alt {
	return api.Alt{
		Name: "vi", Link: "/bin/vi", Cur: "/opt/b",
		Slaves: []api.Slave{{Name: "vi.1", Link: "/man/vi.1"}, {Name: "vi.3", Link: "/man/vi.3"}},
		Choices: []api.Choice{
			{Path: "/opt/a", Prio: 5, Slaves: []string{"/opt/a.1", "/opt/a.3"}},
			{Path: "/opt/b", Prio: 9, Slaves: []string{"", "/opt/b.3"}},
			{Path: "/opt/c", Prio: 5, Slaves: []string{"/opt/c.1", ""}},
		},
	}
}

func ed() api.Alt {
	return api.Alt{Name: "ed", Link: "/bin/ed", Cur: "/opt/a", Choices: []api.Choice{{Path: "/opt/a", Prio: -1}, {Path: "/opt/b", Prio: -1}}}
}

// manual is an alternative for which a choice was taken.
func manual(x api.Alt, p string) api.Alt {
	x.Manual, x.Cur = true, p
	return x
}

func auto(name, p string) choice.Sel { return choice.Sel{Name: name, Path: p} }

func set(name, p string) choice.Sel { return choice.Sel{Name: name, Manual: true, Path: p} }

// P30.1

func TestOf(t *testing.T) {
	for _, c := range []struct {
		l    []api.Alt
		want []choice.Sel
	}{
		{nil, nil},
		{[]api.Alt{ed(), vi()}, []choice.Sel{auto("ed", "/opt/a"), auto("vi", "/opt/b")}},
		{[]api.Alt{manual(vi(), "/opt/b"), manual(ed(), "/opt/b"), vi()}, []choice.Sel{set("vi", "/opt/b"), set("ed", "/opt/b"), auto("vi", "/opt/b")}},
		{[]api.Alt{{}, {Name: "X ", Cur: "none", Manual: true}}, []choice.Sel{auto("", ""), set("X ", "none")}},
		{make([]api.Alt, 65), make([]choice.Sel, 65)},
	} {
		if got := choice.Of(c.l); !slices.Equal(got, c.want) {
			t.Errorf("Of(%v): %v, want %v", c.l, got, c.want)
		}
	}
}

func TestRight(t *testing.T) {
	names := map[string]bool{
		"vi": true, "0": true, "a+-.": true, longestName: true, "a.dpkg-tmp": true, "auto": true,
		"": false, "A": false, "-": false, "a b": false, "/a": false, "a\n": false, "a_b": false, longestName + "a": false,
	}
	paths := map[string]bool{
		"/": true, "/a": true, "/bin/a.b": true, longestPath: true, "/var/lib/dpkg": true, "/a.dpkg-new": true, "/#": true,
		"": false, "a": false, "/a/": false, "//": false, "/a/..": false, "/a b": false, "/a\n": false, "/\x7f": false, longestPath + "a": false,
	}
	for name, rightName := range names {
		for p, rightPath := range paths {
			want := rightName && rightPath
			for _, x := range []choice.Sel{auto(name, p), set(name, p)} {
				if got := choice.Right(x); got != want {
					t.Errorf("Right(%v): %v", x, got)
				}
				s, e := choice.Print([]choice.Sel{auto("a", "/"), x, auto("a", "/")})
				if want != (e == api.OK) || !want && (e != api.EARG || s != "") {
					t.Errorf("Print with %v: %q %d", x, s, e)
				}
			}
		}
	}
}

// printed are selections, and what is printed of them.
var printed = []struct {
	l []choice.Sel
	s string
}{
	{nil, ""},
	{[]choice.Sel{auto("vi", "/bin/a")}, "vi auto /bin/a\n"},
	{[]choice.Sel{set("vi", "/bin/a")}, "vi manual /bin/a\n"},
	{[]choice.Sel{set("vi", "/"), auto("ed", "/b"), set("vi", "/"), auto("vi", "/a")}, "vi manual /\ned auto /b\nvi manual /\nvi auto /a\n"},
	{[]choice.Sel{auto("auto", "/auto"), set("manual", "/manual")}, "auto auto /auto\nmanual manual /manual\n"},
	{[]choice.Sel{auto(longestName, longestPath)}, longestName + " auto " + longestPath + "\n"},
	{slices.Repeat([]choice.Sel{set("a", "/b")}, 64), strings.Repeat("a manual /b\n", 64)},
}

func TestPrint(t *testing.T) {
	for _, c := range printed {
		if s, e := choice.Print(c.l); s != c.s || e != api.OK {
			t.Errorf("Print(%v): %q %d, want %q", c.l, s, e, c.s)
		}
	}
	wrong := make([]choice.Sel, 64)
	if s, e := choice.Print(wrong); s != "" || e != api.EARG {
		t.Errorf("Print of 64 wrong ones: %q %d", s, e)
	}
	for _, l := range [][]choice.Sel{append(wrong, choice.Sel{}), slices.Repeat([]choice.Sel{auto("a", "/b")}, 65)} {
		if s, e := choice.Print(l); s != "" || e != api.EFULL {
			t.Errorf("Print of 65: %q %d", s, e)
		}
	}
}

func TestParse(t *testing.T) {
	for _, c := range printed {
		if l, e := choice.Parse(c.s); !slices.Equal(l, c.l) || e != api.OK {
			t.Errorf("Parse(%q): %v %d, want %v", c.s, l, e, c.l)
		}
	}
	for _, s := range []string{
		"\n", " ", "\n\n", "vi", "vi\n", "vi auto\n", "vi auto \n", "vi /a\n", "auto /a\n", " auto /a\n", "vi  /a\n",
		"vi auto /a", "vi manual /a", "vi auto /a\nvi", "vi auto /a\n\n", "\nvi auto /a\n", "vi auto /a\n\nvi auto /a\n",
		"vi  auto /a\n", "vi auto  /a\n", " vi auto /a\n", "vi auto /a \n", "vi auto /a b\n", "vi auto /a auto\n", "vi\tauto\t/a\n", "vi auto /a\r\n",
		"vi Auto /a\n", "vi autos /a\n", "vi aut /a\n", "vi manually /a\n", "vi MANUAL /a\n", "vi true /a\n",
		"Vi auto /a\n", "/a auto vi\n", "vi auto a\n", "vi auto /a/\n", "vi auto //a\n", "auto vi /a\n", "vi auto /a\nvi auto a\n",
		longestName + "a auto /a\n", "vi auto " + longestPath + "a\n", strings.Repeat("a manual /b\n", 65), "vi auto /a\x00\n", "\xff auto /a\n",
	} {
		if l, e := choice.Parse(s); len(l) != 0 || e != api.EFORM {
			t.Errorf("Parse(%q): %v %d", s, l, e)
		}
	}
}

// P30.4

// near gives texts that differ from one by one byte: one that is lacking, one
// in another's place, or one more.
func near(s string, f func(string)) {
	const others = " \n\t\x00\x7f\xffaAbmul0/#-+.,"
	for i := range len(s) + 1 {
		for j := range len(others) {
			f(s[:i] + others[j:j+1] + s[i:])
		}
		if i == len(s) {
			return
		}
		f(s[:i] + s[i+1:])
		for j := range len(others) {
			f(s[:i] + others[j:j+1] + s[i+1:])
		}
	}
}

func TestNearTexts(t *testing.T) {
	right, wrong := 0, 0
	for _, c := range printed[:6] {
		near(c.s, func(s string) {
			l, e := choice.Parse(s)
			if e != api.OK {
				wrong++
				if e != api.EFORM || len(l) != 0 {
					t.Errorf("Parse(%q): %v %d", s, l, e)
				}
				return
			}
			right++
			if again, e := choice.Print(l); again != s || e != api.OK {
				t.Errorf("%q became %q %d", s, again, e)
			}
		})
	}
	if right < 100 || wrong < 100 {
		t.Errorf("%d were read, %d not", right, wrong)
	}
}

// P30.3

const viText = `vi - auto mode
best /opt/b
currently /opt/b
link vi is /bin/vi
slave vi.1 is /man/vi.1
slave vi.3 is /man/vi.3
/opt/a - priority 5
slave vi.1: /opt/a.1
slave vi.3: /opt/a.3
/opt/b - priority 9
slave vi.3: /opt/b.3
/opt/c - priority 5
slave vi.1: /opt/c.1
`

const edText = `ed - auto mode
best /opt/a
currently /opt/a
link ed is /bin/ed
/opt/a - priority -1
/opt/b - priority -1
`

func TestDisplay(t *testing.T) {
	byHand := func(s, from, to string) string {
		s = strings.Replace(s, "auto mode", "manual mode", 1)
		return strings.Replace(s, "currently "+from, "currently "+to, 1)
	}
	none := vi()
	for i := range none.Choices {
		none.Choices[i].Slaves = []string{"", ""}
	}
	noneText := "vi - auto mode\nbest /opt/b\ncurrently /opt/b\nlink vi is /bin/vi\nslave vi.1 is /man/vi.1\nslave vi.3 is /man/vi.3\n" +
		"/opt/a - priority 5\n/opt/b - priority 9\n/opt/c - priority 5\n"
	far := api.Alt{Name: longestName, Link: longestPath, Cur: "/b", Choices: []api.Choice{{Path: "/a", Prio: math.MinInt32}, {Path: "/b", Prio: math.MaxInt32}, {Path: "/c"}}}
	for _, c := range []struct {
		x    api.Alt
		want string
	}{
		{vi(), viText},
		{ed(), edText},
		{manual(vi(), "/opt/c"), byHand(viText, "/opt/b", "/opt/c")},
		{manual(vi(), "/opt/b"), byHand(viText, "", "")},
		{manual(ed(), "/opt/b"), byHand(edText, "/opt/a", "/opt/b")},
		{none, noneText},
		{far, longestName + " - auto mode\nbest /b\ncurrently /b\nlink " + longestName + " is " + longestPath + "\n" +
			"/a - priority -2147483648\n/b - priority 2147483647\n/c - priority 0\n"},
	} {
		before := fmt.Sprint(c.x)
		if got := choice.Display(c.x); got != c.want {
			t.Errorf("Display(%v): %s\nwant %s", c.x, got, c.want)
		}
		if fmt.Sprint(c.x) != before {
			t.Errorf("Display changed %s", before)
		}
	}
}

func TestDisplayWrong(t *testing.T) {
	for i, change := range []func(x *api.Alt){
		func(x *api.Alt) { *x = api.Alt{} },
		func(x *api.Alt) { x.Name = "Vi" },
		func(x *api.Alt) { x.Link = "/" },
		func(x *api.Alt) { x.Cur = "/opt/a" },
		func(x *api.Alt) { x.Cur = "/none" },
		func(x *api.Alt) { x.Manual, x.Cur = true, "/none" },
		func(x *api.Alt) { x.Choices = nil },
		func(x *api.Alt) { x.Choices[0].Slaves = x.Choices[0].Slaves[:1] },
		func(x *api.Alt) { x.Choices[2].Slaves = append(x.Choices[2].Slaves, "/more") },
		func(x *api.Alt) { x.Choices[0], x.Choices[1] = x.Choices[1], x.Choices[0] },
		func(x *api.Alt) { x.Choices[0].Prio = 1 << 40 },
		func(x *api.Alt) { x.Slaves = nil },
		func(x *api.Alt) { x.Slaves[0].Name = "vi" },
		func(x *api.Alt) { x.Slaves[0].Link = x.Link },
	} {
		x := vi()
		change(&x)
		if alts.Right(x) {
			t.Fatalf("change %d makes nothing wrong", i)
		}
		if got := choice.Display(x); got != "" {
			t.Errorf("Display(%v): %q", x, got)
		}
	}
}

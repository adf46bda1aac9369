package pack_test

import (
	"fmt"
	"math/rand/v2"
	"slices"
	"strings"
	"testing"

	"cellarer/api"
	"cellarer/lists"
	"cellarer/pack"
	"cellarer/status"
)

// whole is a package that has something of everything.
func whole() api.Package {
	return api.Package{
		Name: "a", Version: "1:2-3",
		Depends:   [][]api.Rel{{{Name: "b", Op: ">=", Version: "1"}, {Name: "c"}}, {{Name: "a"}}},
		Conflicts: []api.Rel{{Name: "d"}, {Name: "a", Op: "<<", Version: "2"}},
		Replaces:  []string{"d", "a", "d"},
		Files: []api.File{
			{Path: "/bin", Kind: api.KDir, Meta: api.Meta{Mode: 0o755}},
			{Path: "/bin/a", Kind: api.KFile, Meta: api.Meta{Mode: 0o4755, Uid: 5, Gid: 6}, Text: "x"},
			{Path: "/bin/b", Kind: api.KLink, Text: "a"},
			{Path: "/bin/b.c", Kind: api.KFile},
			{Path: "/etc", Kind: api.KDir},
			{Path: "/etc/a", Kind: api.KFile, Text: "y", Conf: true},
		},
		Interests: []api.Interest{{Trigger: "/usr"}, {Trigger: "a", Package: "- -", Noawait: true}},
		Scripts: [4][]api.Act{
			api.PreInst: {{Kind: api.CDivert, Path: "/a"}},
			api.PostRm:  {{Kind: api.CUndiv, Path: "/a"}, {Kind: api.CFire, Name: "t"}},
		},
	}
}

func small() api.Package { return api.Package{Name: "a", Version: "1"} }

func holdsRight(t *testing.T, what string, x api.Package, want bool) {
	t.Helper()
	before := fmt.Sprintf("%#v", x)
	if got := pack.Right(x); got != want {
		t.Errorf("Right of %s: %v", what, got)
	}
	if fmt.Sprintf("%#v", x) != before {
		t.Errorf("Right changed %s", what)
	}
}

// changed holds what becomes of the two packages by a change, in one way alone.
func changed(t *testing.T, what string, want bool, change func(x *api.Package)) {
	t.Helper()
	for _, x := range []api.Package{small(), whole()} {
		change(&x)
		holdsRight(t, what, x, want)
	}
}

// P19.3

func TestRight(t *testing.T) {
	holdsRight(t, "a small one", small(), true)
	holdsRight(t, "a whole one", whole(), true)
	holdsRight(t, "none", api.Package{}, false)
	empty := api.Package{
		Name: "a", Version: "1", Depends: [][]api.Rel{}, Conflicts: []api.Rel{}, Replaces: []string{}, Files: []api.File{},
		Interests: []api.Interest{}, Scripts: [4][]api.Act{{}, {}, {}, {}},
	}
	holdsRight(t, "one of empty lists", empty, true)
}

func TestRightName(t *testing.T) {
	for _, s := range []string{"b", "0", "a+-.", name60, "a.dpkg-new", tmp60} {
		changed(t, "the name "+s, true, func(x *api.Package) { x.Name = s })
	}
	for _, s := range []string{"", "A", "-a", "a b", "a/b", "/a", name60 + "a", "a\n", "a_b", "ä"} {
		changed(t, "the name "+s, false, func(x *api.Package) { x.Name = s })
	}
}

func TestRightVersion(t *testing.T) {
	for _, s := range []string{"0", "1", "1.0~rc1-2", "999999999:1", "1:1:1-a", sized("1", 80)} {
		changed(t, "the version "+s, true, func(x *api.Package) { x.Version = s })
	}
	for _, s := range []string{"", "a", "1-", "1 ", ":1", "1:", "1\n", "1_1", sized("1", 81)} {
		changed(t, "the version "+s, false, func(x *api.Package) { x.Version = s })
	}
}

func TestRightRelations(t *testing.T) {
	right := api.Rel{Name: "b", Op: "<=", Version: "1"}
	for _, c := range []struct {
		n, m int // groups, and relations in each
		want bool
	}{{1, 1, true}, {64, 1, true}, {1, 64, true}, {64, 64, true}, {65, 1, false}, {1, 65, false}, {1, 0, false}, {64, 0, false}} {
		l := slices.Repeat([][]api.Rel{slices.Repeat([]api.Rel{right}, c.m)}, c.n)
		changed(t, fmt.Sprintf("%d groups of %d", c.n, c.m), c.want, func(x *api.Package) { x.Depends = l })
	}
	changed(t, "64 conflicts", true, func(x *api.Package) { x.Conflicts = slices.Repeat([]api.Rel{right}, 64) })
	changed(t, "65 conflicts", false, func(x *api.Package) { x.Conflicts = slices.Repeat([]api.Rel{right}, 65) })
	for _, r := range []api.Rel{{}, {Name: "B"}, {Name: "b", Op: "=="}, {Name: "b", Op: "="}, {Name: "b", Version: "1"}, {Name: "b", Op: "=", Version: "a"}, {Op: "=", Version: "1"}} {
		what := fmt.Sprintf("%q", r)
		changed(t, what, false, func(x *api.Package) { x.Depends = [][]api.Rel{{right}, {right, r}} })
		changed(t, what, false, func(x *api.Package) { x.Depends = [][]api.Rel{{r}} })
		changed(t, what, false, func(x *api.Package) { x.Conflicts = []api.Rel{right, r} })
	}
}

func TestRightReplaces(t *testing.T) {
	changed(t, "16 names", true, func(x *api.Package) { x.Replaces = slices.Repeat([]string{"b"}, 16) })
	changed(t, "17 names", false, func(x *api.Package) { x.Replaces = slices.Repeat([]string{"b"}, 17) })
	changed(t, "names that fall", true, func(x *api.Package) { x.Replaces = []string{"b", "a.dpkg-new", name60} })
	for _, s := range []string{"", "B", "b ", "b/c", "/b", name60 + "a"} {
		changed(t, "the name "+s, false, func(x *api.Package) { x.Replaces = []string{"b", s, "c"} })
	}
}

func manyFiles(n int) []api.File {
	var out []api.File
	for i := range n {
		out = append(out, api.File{Path: fmt.Sprintf("/f%02d", i), Kind: api.KFile})
	}
	return out
}

func file(kind int, p, text string) api.File { return api.File{Path: p, Kind: kind, Text: text} }

func conf(kind int, p, text string) api.File {
	return api.File{Path: p, Kind: kind, Text: text, Conf: true}
}

func TestRightFiles(t *testing.T) {
	const dir, file1, link = api.KDir, api.KFile, api.KLink
	for _, c := range []struct {
		what string
		l    []api.File
		want bool
	}{
		{"32 files", manyFiles(32), true},
		{"33 files", manyFiles(33), false},
		{"a path twice", []api.File{file(file1, "/a", ""), file(file1, "/a", "")}, false},
		{"a directory twice", []api.File{file(dir, "/a", ""), file(dir, "/a", "")}, false},
		{"paths that fall", []api.File{file(file1, "/b", ""), file(file1, "/a", "")}, false},
		{"paths that rise by bytes", []api.File{file(dir, "/A", ""), file(file1, "/a", ""), file(dir, "/a+", ""), file(dir, "/a+/b", ""), file(dir, "/a-", "")}, true},
		{"no kind", []api.File{file(0, "/a", "")}, false},
		{"a greater kind", []api.File{file(4, "/a", "")}, false},
		{"a lesser kind", []api.File{file(-1, "/a", "")}, false},
		{"a directory with a text", []api.File{file(dir, "/a", "x")}, false},
		{"a link without a text", []api.File{file(link, "/a", "")}, false},
		{"a link of 1 byte", []api.File{file(link, "/a", "\x00")}, true},
		{"a link of 200 bytes", []api.File{file(link, "/a", sized("", 200))}, true},
		{"a link of 201 bytes", []api.File{file(link, "/a", sized("", 201))}, false},
		{"a file of 201 bytes", []api.File{file(file1, "/a", sized("", 201))}, true},
		{"a file of 4096 bytes", []api.File{file(file1, "/a", sized("", 4096))}, true},
		{"a file of 4097 bytes", []api.File{file(file1, "/a", sized("", 4097))}, false},
		{"a file of any bytes", []api.File{file(file1, "/a", "\x00\n \xff")}, true},
		{"a conffile", []api.File{conf(file1, "/a", "")}, true},
		{"a conffile of 4097 bytes", []api.File{conf(file1, "/a", sized("", 4097))}, false},
		{"a directory as conffile", []api.File{conf(dir, "/a", "")}, false},
		{"a link as conffile", []api.File{conf(link, "/a", "x")}, false},
		{"a file below a directory", []api.File{file(dir, "/a", ""), file(file1, "/a/b", "")}, true},
		{"a file below none", []api.File{file(file1, "/a/b/c", "")}, true},
		{"a file far below a directory", []api.File{file(dir, "/a", ""), file(file1, "/a/b/c", "")}, true},
		{"a file below a file", []api.File{file(file1, "/a", ""), file(file1, "/a/b", "")}, false},
		{"a file below a link", []api.File{file(link, "/a", "x"), file(file1, "/a/b", "")}, false},
		{"a directory below a file", []api.File{file(file1, "/a", ""), file(dir, "/a/b", "")}, false},
		{"a file far below a file", []api.File{file(file1, "/a", ""), file(file1, "/a+", ""), file(file1, "/a/b/c", "")}, false},
		{"a file below a file below a directory", []api.File{file(dir, "/a", ""), file(file1, "/a/b", ""), file(file1, "/a/b/c", "")}, false},
		{"files that begin alike", []api.File{file(file1, "/a", ""), file(file1, "/ab", ""), file(link, "/abc", "x"), file(file1, "/abc.d", "")}, true},
	} {
		changed(t, c.what, c.want, func(x *api.Package) { x.Files = c.l })
	}
	for _, x := range allows {
		for _, kind := range []int{dir, file1} {
			l := []api.File{file(kind, x.s, "")}
			changed(t, "a file at "+x.s, slices.Contains(x.in, aPlace), func(x *api.Package) { x.Files = l })
		}
	}
}

func TestRightMetas(t *testing.T) {
	for _, kind := range []int{api.KDir, api.KFile, api.KLink} {
		f := file(kind, "/a", "")
		if kind == api.KLink {
			f.Text = "x"
		}
		for _, m := range []api.Meta{{}, {Mode: 4095, Uid: api.MaxId, Gid: api.MaxId}} {
			f.Meta = m
			changed(t, fmt.Sprint("the meta ", m), true, func(x *api.Package) { x.Files = []api.File{f} })
		}
		for _, m := range []api.Meta{{Mode: -1}, {Mode: 4096}, {Uid: -1}, {Uid: api.MaxId + 1}, {Gid: -1}, {Gid: api.MaxId + 1}} {
			f.Meta = m
			changed(t, fmt.Sprint("the meta ", m), false, func(x *api.Package) { x.Files = []api.File{f} })
		}
	}
}

func manyInterests(n int) []api.Interest {
	var out []api.Interest
	for i := range n {
		out = append(out, api.Interest{Trigger: fmt.Sprintf("t%02d", n-i), Noawait: i%2 > 0})
	}
	return out
}

func TestRightInterests(t *testing.T) {
	changed(t, "8 interests", true, func(x *api.Package) { x.Interests = manyInterests(8) })
	changed(t, "9 interests", false, func(x *api.Package) { x.Interests = manyInterests(9) })
	changed(t, "an interest twice", false, func(x *api.Package) { x.Interests = []api.Interest{{Trigger: "t"}, {Trigger: "t"}} })
	changed(t, "an interest twice, apart", false, func(x *api.Package) {
		x.Interests = []api.Interest{{Trigger: "t", Package: "a"}, {Trigger: "s"}, {Trigger: "t", Package: "b", Noawait: true}}
	})
	for _, x := range allows {
		l := []api.Interest{{Trigger: "zz"}, {Trigger: x.s}}
		changed(t, "the trigger "+x.s, slices.Contains(x.in, aTrigger), func(x *api.Package) { x.Interests = l })
	}
}

func TestRightScripts(t *testing.T) {
	right, wrong := api.Act{Kind: api.CAuto, Name: "a"}, api.Act{Kind: api.CAuto}
	for i := range 4 {
		what := fmt.Sprint("script ", i, ": ")
		changed(t, what+"6 commands", true, func(x *api.Package) { x.Scripts[i] = slices.Repeat([]api.Act{right}, 6) })
		changed(t, what+"7 commands", false, func(x *api.Package) { x.Scripts[i] = slices.Repeat([]api.Act{right}, 7) })
		for j := range 6 {
			l := slices.Repeat([]api.Act{right}, 6)
			l[j] = wrong
			changed(t, what+"a wrong one", false, func(x *api.Package) { x.Scripts[i] = l })
		}
		for _, c := range acts {
			changed(t, what+"of each kind", true, func(x *api.Package) { x.Scripts[i] = []api.Act{full(c.act.Kind)} })
		}
	}
}

// P19.4

func TestFile(t *testing.T) {
	l := []api.File{file(api.KFile, "/a", ""), file(0, "", ""), file(api.KDir, "/b", ""), file(api.KLink, "/a", "x"), file(api.KFile, "/b/c", "")}
	for p, want := range map[string]int{"/a": 0, "": 1, "/b": 2, "/b/c": 4, "/": -1, "/c": -1, "/A": -1, "/b/": -1, "a": -1} {
		if got := pack.File(l, p); got != want {
			t.Errorf("File(%q): %d, want %d", p, got, want)
		}
	}
	if got := pack.File(nil, ""); got != -1 {
		t.Errorf("File of none: %d", got)
	}
}

func TestPaths(t *testing.T) {
	if got := pack.Paths(whole()); !slices.Equal(got, []string{"/bin", "/bin/a", "/bin/b", "/bin/b.c", "/etc", "/etc/a"}) {
		t.Errorf("Paths: %q", got)
	}
	x := api.Package{Files: []api.File{file(9, "b", ""), file(0, "", ""), file(0, "a", ""), file(0, "b", "")}}
	if got := pack.Paths(x); !slices.Equal(got, []string{"b", "", "a", "b"}) {
		t.Errorf("Paths of a wrong one: %q", got)
	}
	if got := pack.Paths(small()); len(got) != 0 {
		t.Errorf("Paths of none: %q", got)
	}
}

func TestConfs(t *testing.T) {
	// Sums that are known: of an empty text, and of a.
	const sum, sumA = "cbf29ce484222325", "af63dc4c8601ec8c"
	x := api.Package{Files: []api.File{
		conf(api.KFile, "/b", ""), file(api.KFile, "/c", "a"), conf(api.KDir, "/d", "a"), conf(api.KLink, "/a", "a"), conf(0, "", ""), conf(api.KFile, "/b", "a"),
	}}
	want := []api.Conf{{Path: "/b", Sum: sum}, {Path: "/d", Sum: sumA}, {Path: "/a", Sum: sumA}, {Sum: sum}, {Path: "/b", Sum: sumA}}
	if got := pack.Confs(x); !slices.Equal(got, want) {
		t.Errorf("Confs: %q, want %q", got, want)
	}
	if got := pack.Confs(whole()); len(got) != 1 || got[0].Path != "/etc/a" {
		t.Errorf("Confs of a whole one: %q", got)
	}
	if got := pack.Confs(small()); len(got) != 0 {
		t.Errorf("Confs of none: %q", got)
	}
}

func TestOwn(t *testing.T) {
	x := small()
	x.Interests = []api.Interest{{Trigger: "t", Package: "b", Noawait: true}, {Trigger: "/a"}, {Trigger: "t", Package: "a"}, {}}
	before := slices.Clone(x.Interests)
	want := []api.Interest{{Trigger: "t", Package: "a", Noawait: true}, {Trigger: "/a", Package: "a"}, {Trigger: "t", Package: "a"}, {Package: "a"}}
	if got := pack.Own(x); !slices.Equal(got, want) {
		t.Errorf("Own: %v, want %v", got, want)
	}
	if !slices.Equal(x.Interests, before) {
		t.Errorf("Own changed %v", x.Interests)
	}
	x.Name = ""
	if got := pack.Own(x); len(got) != 4 || got[0] != (api.Interest{Trigger: "t", Noawait: true}) {
		t.Errorf("Own of one without a name: %v", got)
	}
	if got := pack.Own(small()); len(got) != 0 {
		t.Errorf("Own of none: %v", got)
	}
}

func TestPick(t *testing.T) {
	// Each of the pool has its place as how many names it replaces.
	var pool []api.Package
	for i, v := range []string{"a 1", "a 2", "b 1", "a 1", "a 1-0", "a 0:1", " "} {
		name, version, _ := strings.Cut(v, " ")
		x := whole()
		x.Name, x.Version, x.Replaces = name, version, make([]string, i)
		pool = append(pool, x)
	}
	for _, c := range []struct {
		name, v string
		want    int
	}{{"a", "1", 0}, {"a", "2", 1}, {"b", "1", 2}, {"a", "1-0", 4}, {"a", "0:1", 5}, {"", "", 6}} {
		if got := pack.Pick(pool, c.name, c.v); fmt.Sprint(got) != fmt.Sprint(pool[c.want]) {
			t.Errorf("Pick(%q, %q): %v", c.name, c.v, got)
		}
	}
	for _, c := range [][2]string{{"b", "2"}, {"c", "1"}, {"a", ""}, {"", "1"}, {"a", "1.0"}, {"1", "a"}, {"-", "?"}} {
		for _, pool := range [][]api.Package{pool, pool[:2], {}, nil} {
			if got := pack.Pick(pool, c[0], c[1]); fmt.Sprint(got) != fmt.Sprint(api.Package{Name: c[0], Version: c[1]}) {
				t.Errorf("Pick(%q): %v", c, got)
			}
		}
	}
}

// P19.5

// random is a package that is right more often than not.
func random(r *rand.Rand) api.Package {
	pick := func(l ...string) string { return l[r.IntN(len(l))] }
	x := api.Package{Name: pick("a", "b", name60, "A"), Version: pick("1", "2:1-1", "1.0~a", "", sized("1", 80)), Depends: whole().Depends, Conflicts: whole().Conflicts}
	for range r.IntN(17) {
		x.Replaces = append(x.Replaces, pick("a", "b", "c", name60))
	}
	for i := range r.IntN(34) {
		p := pick("/a", "/a/", "/", "/b", "/c.") + fmt.Sprintf("%02d", i) + pick("", "", "/x", "z")
		f := api.File{Path: p, Kind: 1 + r.IntN(3)}
		switch f.Kind {
		case api.KLink:
			f.Text = pick("/a", "x", sized("", 200))
		case api.KFile:
			f.Text, f.Conf = pick("", "x", "\n", sized("", 4096)), r.IntN(2) == 0
		}
		x.Files = append(x.Files, f)
	}
	slices.SortFunc(x.Files, func(a, b api.File) int { return strings.Compare(a.Path, b.Path) })
	return x
}

func TestRightMakesRight(t *testing.T) {
	r := rand.New(rand.NewPCG(19, 5))
	seen := [2]int{}
	packages := []api.Package{small(), whole()}
	for range 4000 {
		packages = append(packages, random(r))
	}
	x := small()
	for _, f := range manyFiles(32) {
		f.Conf = true
		x.Files = append(x.Files, f)
	}
	for _, x := range append(packages, x) {
		if !pack.Right(x) {
			seen[0]++
			continue
		}
		seen[1]++
		rec := api.Record{Name: x.Name, Version: x.Version, State: api.SUnpacked, Depends: x.Depends, Conflicts: x.Conflicts, Replaces: x.Replaces, Confs: pack.Confs(x)}
		if !status.Right(rec) {
			t.Fatalf("no right record: %v", rec)
		}
		if l := (api.List{Name: x.Name, Paths: pack.Paths(x)}); !lists.Right(l) {
			t.Fatalf("no right list: %v", l)
		}
	}
	if seen[0] < 100 || seen[1] < 100 {
		t.Errorf("%d were wrong, %d right", seen[0], seen[1])
	}
}

package admin_test

import (
	"fmt"
	"slices"
	"strings"
	"testing"

	"cellarer/admin"
	"cellarer/api"
	"cellarer/disk"
	"cellarer/script"
	"cellarer/store"
)

// P28.1

func TestNew(t *testing.T) {
	t.Parallel()
	w, d := admin.New(), disk.New(api.Limits{})
	must(t, store.Format(d))
	if look(w.Disk()) != look(d) {
		t.Errorf("%s, want %s", look(w.Disk()), look(d))
	}
	if len(w.Pool()) != 0 || !same(loads(t, w), api.State{}) {
		t.Errorf("%v %v", w.Pool(), loads(t, w))
	}
	// There are no limits, and no power goes off.
	for i := range 300 {
		must(t, w.Disk().Do(api.Op{Kind: api.OCreate, Path: fmt.Sprintf("/%s%03d", strings.Repeat("a", 196), i)}))
	}
	// Nor do scripts fail.
	all(t, w, "package a 1\npreinst fire t await\nunpack a 1\nconfigure a\n")
	if other := admin.New(); other.Disk() == w.Disk() || len(other.Pool()) != 0 || look(other.Disk()) != look(d) {
		t.Error("another world is not new")
	}
}

// noLines may not be: what they have beside is of no matter.
var noLines = []api.Line{
	{}, {Kind: -1}, {Kind: 21}, {Kind: api.LAct}, {Kind: api.LAct, Act: api.Act{Kind: api.CAll, Name: "a", Path: "/a"}},
	{Kind: api.LUnpack, Name: "a"}, {Kind: api.LUnpack, Name: "a", Text: strings.Repeat("1", 81)}, {Kind: api.LConfigure}, {Kind: api.LConfigure, Name: "a", Text: "1"},
	{Kind: api.LRemove, Name: "a b"}, {Kind: api.LPurge, Name: strings.Repeat("a", 61)}, {Kind: api.LProcess, Name: "a"}, {Kind: api.LTrue, Text: "/a", Name: "-"}, {Kind: api.LTrue},
	{Kind: api.LShow}, {Kind: api.LOwner, Text: "/a\n"}, {Kind: api.LQuery, Name: "a", Flag: true}, {Kind: api.LCodes, Nums: []int{-1}}, {Kind: api.LCodes, Nums: make([]int, 17)},
	{Kind: api.LLimits, Limits: api.Limits{Bytes: -1}}, {Kind: api.LCrash, N: -1}, {Kind: api.LCrash, Keep: 1<<30 + 1}, {Kind: api.LPackage, Name: "a"}, {Kind: api.LDepends, Depends: [][]api.Rel{{}}},
	{Kind: api.LConflicts, Conflicts: []api.Rel{{}}}, {Kind: api.LReplaces, Names: []string{""}}, {Kind: api.LFile}, {Kind: api.LFile, File: api.File{Path: "/a", Kind: api.KDir, Text: "a"}},
	{Kind: api.LInterest}, {Kind: api.LScript}, {Kind: api.LScript, N: 4, Act: api.Act{Kind: api.CAuto, Name: "a"}},
}

func TestWrongLines(t *testing.T) {
	t.Parallel()
	for _, text := range []string{"", settled, settled + "crash 0 0\n"} {
		w := world(t, text)
		before := sight(w)
		for _, x := range noLines {
			if script.Right(x) {
				t.Errorf("right: %+v", x)
			}
			if got := w.Do(x); got != (api.Answer{Code: api.EFORM}) {
				t.Errorf("%+v: %v", x, got)
			}
		}
		if sight(w) != before {
			t.Error("a wrong line did something")
		}
		// A crash is armed by commands alone, and none of them is one.
		must(t, w.Disk().Sync("/"))
	}
}

// Lines about a package that is not there.
func TestNoPackage(t *testing.T) {
	t.Parallel()
	w := admin.New()
	before := sight(w)
	for _, s := range []string{
		"depends", "depends b", "conflicts", "conflicts b", "replaces", "replaces b", "dir /a 0755 0 0", "file /a 0755 0 0 -",
		"interest t await", "preinst fire t await", "postinst fire t await", "prerm fire t await", "postrm fire t await",
	} {
		does(t, w, s, api.ENOENT, "")
	}
	if sight(w) != before {
		t.Error("the world changed")
	}
}

func TestPackages(t *testing.T) {
	t.Parallel()
	w := admin.New()
	var want []api.Package
	for i := range 23 {
		x := api.Package{Name: "a", Version: fmt.Sprint(i / 2)}
		e := api.OK
		if i >= 20 {
			e = api.EFULL
		} else {
			want = append(want, x)
		}
		does(t, w, "package a "+x.Version, e, "")
		if got := w.Pool(); !same(got, want) {
			t.Errorf("%v, want %v", got, want)
		}
	}
	// The last one that was added is still the last one.
	does(t, w, "replaces b", api.OK, "")
	want[19].Replaces = []string{"b"}
	if got := w.Pool(); !same(got, want) {
		t.Errorf("%v, want %v", got, want)
	}
}

// What becomes of the last package, and of it alone.
func TestRelations(t *testing.T) {
	t.Parallel()
	w := world(t, "package a 1\ndepends b\nconflicts c\nreplaces d e\npackage b 1\ndepends a (>= 1) | c, d\nconflicts x, y (<< 2)\nreplaces z\n")
	want := []api.Package{
		{Name: "a", Version: "1", Depends: [][]api.Rel{{{Name: "b"}}}, Conflicts: []api.Rel{{Name: "c"}}, Replaces: []string{"d", "e"}},
		{
			Name: "b", Version: "1", Depends: [][]api.Rel{{{Name: "a", Op: ">=", Version: "1"}, {Name: "c"}}, {{Name: "d"}}},
			Conflicts: []api.Rel{{Name: "x"}, {Name: "y", Op: "<<", Version: "2"}}, Replaces: []string{"z"},
		},
	}
	if got := w.Pool(); !same(got, want) {
		t.Errorf("%v, want %v", got, want)
	}
	all(t, w, "depends e\nconflicts f\nreplaces g h\n")
	want[1].Depends, want[1].Conflicts, want[1].Replaces = [][]api.Rel{{{Name: "e"}}}, []api.Rel{{Name: "f"}}, []string{"g", "h"}
	if got := w.Pool(); !same(got, want) {
		t.Errorf("%v, want %v", got, want)
	}
	all(t, w, "depends\nconflicts\nreplaces\n")
	want[1] = api.Package{Name: "b", Version: "1"}
	if got := w.Pool(); !same(got, want) {
		t.Errorf("%v, want %v", got, want)
	}
}

func TestFiles(t *testing.T) {
	t.Parallel()
	w := world(t, "package x 1\nfile /z 0644 0 0 -\npackage a 1\n")
	for _, s := range []string{"file /m 0644 1 2 61", "conffile /a 0600 0 0 -", "dir /z 0755 0 0", "link /a/b 0777 0 0 62", "file /a.b 0644 0 0 -", "file a 0644 0 0 -", "file /Z 0644 0 0 -"} {
		does(t, w, s, api.OK, "")
	}
	want := []api.File{
		{Path: "/Z", Kind: api.KFile, Meta: api.Meta{Mode: 0o644}}, {Path: "/a", Kind: api.KFile, Meta: api.Meta{Mode: 0o600}, Conf: true},
		{Path: "/a.b", Kind: api.KFile, Meta: api.Meta{Mode: 0o644}}, {Path: "/a/b", Kind: api.KLink, Meta: api.Meta{Mode: 0o777}, Text: "b"},
		{Path: "/m", Kind: api.KFile, Meta: api.Meta{Mode: 0o644, Uid: 1, Gid: 2}, Text: "a"}, {Path: "/z", Kind: api.KDir, Meta: api.Meta{Mode: 0o755}},
		{Path: "a", Kind: api.KFile, Meta: api.Meta{Mode: 0o644}},
	}
	if got := w.Pool()[1].Files; !same(got, want) {
		t.Errorf("%v, want %v", got, want)
	}
	for _, s := range []string{"file /m 0644 1 2 61", "dir /m 0755 0 0", "link /Z 0777 0 0 61", "conffile a 0644 0 0 -"} {
		does(t, w, s, api.EEXIST, "")
	}
	for i := len(want); i < 32; i++ {
		does(t, w, fmt.Sprintf("dir /%02d 0755 0 0", 99-i), api.OK, "")
	}
	full := w.Pool()
	does(t, w, "file /0 0644 0 0 -", api.EFULL, "")
	does(t, w, "file b 0644 0 0 -", api.EFULL, "")
	does(t, w, "file /m 0644 0 0 -", api.EEXIST, "")
	if got := w.Pool(); !same(got, full) || len(got[1].Files) != 32 || !slices.IsSortedFunc(got[1].Files, func(f, g api.File) int { return strings.Compare(f.Path, g.Path) }) {
		t.Errorf("%v, want %v", got, full)
	}
	if got := full[0].Files; len(got) != 1 || got[0].Path != "/z" {
		t.Errorf("of the other package: %v", got)
	}
	// There is room in another one.
	all(t, w, "package a 2\nfile /m 0644 0 0 -\n")
}

func TestInterests(t *testing.T) {
	t.Parallel()
	w := world(t, "package x 1\ninterest z await\npackage a 1\n")
	var want []api.Interest
	for i, s := range []string{"t await", "/b noawait", "t noawait", "t await", "- await", "X noawait", "a await", "a await"} {
		does(t, w, "interest "+s, api.OK, "")
		name, flag, _ := strings.Cut(s, " ")
		want = append(want, api.Interest{Trigger: name, Noawait: flag == "noawait"})
		if got := w.Pool()[1].Interests; !same(got, want) || len(got) != i+1 {
			t.Errorf("%v, want %v", got, want)
		}
	}
	does(t, w, "interest u await", api.EFULL, "")
	does(t, w, "interest t await", api.EFULL, "")
	if got := w.Pool(); !same(got[1].Interests, want) || !same(got[0].Interests, []api.Interest{{Trigger: "z"}}) {
		t.Errorf("%v, want %v", got, want)
	}
}

func TestScripts(t *testing.T) {
	t.Parallel()
	w := world(t, "package x 1\nprerm auto z\npackage a 1\n")
	var want [4][]api.Act
	for i := range 6 {
		for n, word := range []string{"preinst", "postinst", "prerm", "postrm"} {
			if n == 3 && i == 5 {
				continue
			}
			name := fmt.Sprintf("%c%d", 'a'+n, i)
			does(t, w, word+" auto "+name, api.OK, "")
			want[n] = append(want[n], api.Act{Kind: api.CAuto, Name: name})
			if got := w.Pool()[1].Scripts; !same(got, want) {
				t.Errorf("%v, want %v", got, want)
			}
		}
	}
	for _, word := range []string{"preinst", "postinst", "prerm"} {
		does(t, w, word+" auto x", api.EFULL, "")
	}
	does(t, w, "postrm install a /l /b 5 s /s - t /t /p", api.OK, "")
	want[3] = append(want[3], api.Act{Kind: api.CInstall, Name: "a", To: "/l", Path: "/b", Prio: 5, Slaves: []api.Slave{{Name: "s", Link: "/s"}, {Name: "t", Link: "/t"}}, Paths: []string{"", "/p"}})
	does(t, w, "postrm auto x", api.EFULL, "")
	got := w.Pool()
	if !same(got[1].Scripts, want) || !same(got[0].Scripts, [4][]api.Act{2: {{Kind: api.CAuto, Name: "z"}}}) {
		t.Errorf("%v, want %v", got, want)
	}
}

// The codes that were there go, even if none come.
func TestCodes(t *testing.T) {
	t.Parallel()
	w := world(t, "package a 1\npackage b 1\ninterest t await\ncodes 1 1 1\ncodes 0 1 0 2\nunpack a 1\n")
	does(t, w, "unpack b 1", api.ESCRIPT, "")
	all(t, w, "unpack b 1\ndivert /x - - keep\n")
	does(t, w, "configure a", api.ESCRIPT, "")
	all(t, w, "configure a\n")
	all(t, w, "codes 1 1 1\ncodes\nconfigure b\n")
	// A line that takes no code leaves them; one that takes too many has 0.
	all(t, w, "codes 0 3 4\n")
	does(t, w, "configure c", api.ENOENT, "")
	does(t, w, "unpack c 1", api.ENOENT, "")
	does(t, w, "purge a", api.ESTATE, "")
	does(t, w, "show c", api.ENOENT, "")
	does(t, w, "configure -", api.ENOENT, "")
	all(t, w, "fire t await\nprocess\n")
	does(t, w, "remove a", api.ESCRIPT, "")
	does(t, w, "remove a", api.ESCRIPT, "")
	all(t, w, "remove a\nremove b\n")
	// What a script that fails took is gone, also where power goes off then.
	all(t, w, "unpack a 1\nconfigure a\ncodes 0 7 0\ncrash 3 0\n")
	does(t, w, "remove a", api.EOFF, "")
	does(t, w, "remove a", api.ESCRIPT, "")
	all(t, w, "remove a\n")
}

func TestLimits(t *testing.T) {
	t.Parallel()
	w := world(t, "limits 0 16 0\n")
	does(t, w, "fire t await", api.ENFILE, "")
	does(t, w, "unoverride /a", api.ENOENT, "")
	all(t, w, "limits 0 17 0\nfire t await\n")
	all(t, w, "limits 5 0 0\nfire t noawait\n")
	does(t, w, "fire tt await", api.ENOSPC, "")
	all(t, w, "limits 4 0 3\n")
	does(t, w, "fire t await", api.ELONG, "")
	all(t, w, "limits 0 0 3\n")
	does(t, w, "override /a 0755 0 0 once later", api.ELONG, "")
	all(t, w, "limits 0 0 0\noverride /a 0755 0 0 once later\n")
}

func TestManyCrashes(t *testing.T) {
	t.Parallel()
	w := admin.New()
	for range 8 {
		does(t, w, "crash 1 0", api.OK, "")
	}
	does(t, w, "crash 1 0", api.EFULL, "")
	// One that is armed is still to come.
	does(t, w, "true /a -", api.OK, "/a\n")
	does(t, w, "crash 1 0", api.EFULL, "")
	does(t, w, "fire t await", api.EOFF, "")
	does(t, w, "crash 1 0", api.OK, "")
	does(t, w, "crash 1 0", api.EFULL, "")
	for range 8 {
		does(t, w, "fire t await", api.EOFF, "")
	}
	all(t, w, "fire t await\n")
}

// aboutWorld are lines about the world, of each kind.
var aboutWorld = []string{
	"package b 1", "depends a", "conflicts a", "replaces a", "dir /a 0755 0 0", "file /b 0755 0 0 -", "interest t await",
	"preinst fire t await", "postrm fire t await", "codes 1", "crash 0 0", "crash 1 2 3",
}

// Lines about the world have nothing to do with databases, the lock, or power:
// nor do they arm a crash.
func TestAboutWorld(t *testing.T) {
	t.Parallel()
	for what, spoil := range map[string]func(d *disk.Disk){
		"in order":      func(*disk.Disk) {},
		"a lock":        func(d *disk.Disk) { write(t, d, lockAt, "") },
		"what is wrong": func(d *disk.Disk) { write(t, d, home+"status", "x") },
		"no databases":  func(d *disk.Disk) { must(t, d.Do(api.Op{Kind: api.OUnlink, Path: home + "status"})) },
		"without power": func(d *disk.Disk) { d.Fuse(0); d.Sync("/") },
		"without room":  func(d *disk.Disk) { d.Bound(api.Limits{Bytes: 1, Files: 1, Name: 1}) },
	} {
		w := world(t, settled+"crash 0 0\n")
		spoil(w.Disk())
		before := look(w.Disk())
		for _, s := range aboutWorld {
			does(t, w, s, api.OK, "")
		}
		if look(w.Disk()) != before {
			t.Errorf("%s: the disk changed", what)
		}
		if on := w.Disk().On(); on && w.Disk().Sync("/") != api.OK {
			t.Errorf("%s: a crash was armed", what)
		}
	}
}

// What was handed out, and what was given, stays as it is whatever comes.
func TestStays(t *testing.T) {
	t.Parallel()
	w := admin.New()
	var kept []any
	var texts []string
	keep := func(x any) { kept, texts = append(kept, x), append(texts, whole(x)) }
	for _, s := range []string{
		"package a 1", "depends b, c", "conflicts d, e", "replaces f g", "file /m 0644 0 0 61", "file /z 0644 0 0 62", "file /a 0644 0 0 63", "interest t await", "interest u await", "interest v noawait",
		"postinst fire t await", "postinst fire u await", "postinst install x /x /m 5 y /y - z /z /a", "package b 1", "dir /d 0755 0 0", "package c 1",
		"codes 0 0 0 1 0", "unpack a 1", "unpack b 1", "configure a", "unpack c 1", "configure c", "divert /m - - keep", "process", "crash 5 1 2 3", "crash 0 1 2", "override /a 0755 0 0 once update", "fire u noawait",
		"package d 1", "depends a", "depends", "replaces", "file /d 0644 0 0 61", "remove c", "configure a", "configure b", "process", "remove b", "query x", "show a", "owner /z", "codes 7 7", "remove a", "remove a", "remove a",
	} {
		x := spared(line(t, s))
		keep(x)
		w.Do(x)
		keep(w.Pool())
		st, e := w.State()
		must(t, e)
		keep(st)
		for i, k := range kept {
			if whole(k) != texts[i] {
				t.Fatalf("%s changed %s, was %s", s, whole(k), texts[i])
			}
		}
	}
	// A list that was handed out has nothing behind its end that is a world's.
	w = world(t, "package a 1\ninterest t await\ninterest u await\ninterest v await\n")
	mine := append(w.Pool(), api.Package{Name: "mine"})
	interests := append(mine[0].Interests, api.Interest{Trigger: "mine"})
	all(t, w, "interest w await\npackage b 1\n")
	if mine[1].Name != "mine" || interests[3].Trigger != "mine" || w.Pool()[1].Name != "b" || w.Pool()[0].Interests[3].Trigger != "w" {
		t.Errorf("%v %v", mine, w.Pool())
	}
}

// P28.4

func TestNoWorld(t *testing.T) {
	t.Parallel()
	for _, w := range []*admin.World{nil, new(admin.World), {}} {
		for _, s := range append(slices.Concat(queries, actions), aboutWorld...) {
			does(t, w, s, api.ENIL, "")
		}
		for _, x := range noLines {
			if got := w.Do(x); got != (api.Answer{Code: api.ENIL}) {
				t.Errorf("%+v: %v", x, got)
			}
		}
		if w.Disk() != nil || len(w.Pool()) != 0 {
			t.Errorf("%v %v", w.Disk(), w.Pool())
		}
		if st, e := w.State(); e != api.ENIL || !same(st, api.State{}) {
			t.Errorf("%d %v", e, st)
		}
	}
}

func TestState(t *testing.T) {
	t.Parallel()
	w := world(t, settled)
	want, e := store.Load(w.Disk())
	must(t, e)
	if got := loads(t, w); !same(got, want) || len(got.Records) == 0 {
		t.Errorf("%v, want %v", got, want)
	}
	write(t, w.Disk(), home+"status", "x")
	if st, e := w.State(); e != api.ECORRUPT || !same(st, api.State{}) {
		t.Errorf("%d %v", e, st)
	}
	w.Disk().Fuse(0)
	w.Disk().Sync("/")
	if st, e := w.State(); e != api.EOFF || !same(st, api.State{}) {
		t.Errorf("%d %v", e, st)
	}
}

func TestRun(t *testing.T) {
	t.Parallel()
	for _, c := range []struct {
		text string
		want []api.Answer
	}{
		{"", nil},
		{"\n", []api.Answer{code(api.EFORM)}},
		{"true /a -", []api.Answer{{Text: "/a\n"}}},
		{"true /a -\n\nfire t await\nfire t", []api.Answer{{Text: "/a\n"}, code(api.EFORM), code(api.OK), code(api.EFORM)}},
		{"override /a 0400 0 0 once later\noverride /a 0400 0 0 once later\n", []api.Answer{code(api.OK), code(api.EEXIST)}},
		{strings.Repeat("unoverride /a\n", 200) + "fire t await\n", slices.Repeat([]api.Answer{code(api.ENOENT)}, 200)},
	} {
		for range 2 {
			if got := admin.Run(c.text); !slices.Equal(got, c.want) {
				t.Errorf("%.80q: %v, want %v", c.text, got, c.want)
			}
		}
	}
}

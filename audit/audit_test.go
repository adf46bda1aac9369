package audit_test

import (
	"fmt"
	"math/rand/v2"
	"slices"
	"strings"
	"testing"

	"cellarer/api"
	"cellarer/audit"
	"cellarer/disk"
	"cellarer/divs"
	"cellarer/engine"
	"cellarer/pack"
	"cellarer/store"
)

var (
	meta  = api.Meta{Mode: 0o644, Uid: 1, Gid: 2}
	other = api.Meta{Mode: 0o600, Uid: 1, Gid: 2}
)

func dir(p string) api.File { return api.File{Path: p, Kind: api.KDir, Meta: meta} }

func file(p, text string) api.File {
	return api.File{Path: p, Kind: api.KFile, Meta: meta, Text: text}
}

func link(p, text string) api.File {
	return api.File{Path: p, Kind: api.KLink, Meta: meta, Text: text}
}

func conffile(p, text string) api.File {
	f := file(p, text)
	f.Conf = true
	return f
}

// with is a file with another meta.
func with(f api.File, m api.Meta) api.File {
	f.Meta = m
	return f
}

func must(t *testing.T, e api.Errno) {
	t.Helper()
	if e != api.OK {
		t.Fatal(e)
	}
}

func holding(t *testing.T, l ...api.File) *disk.Disk {
	t.Helper()
	d := disk.New(api.Limits{})
	must(t, store.Format(d))
	for _, f := range l {
		put(t, d, f)
	}
	must(t, d.Sync("/"))
	return d
}

func put(t *testing.T, d *disk.Disk, f api.File) {
	t.Helper()
	switch f.Kind {
	case api.KDir:
		must(t, d.Do(api.Op{Kind: api.OMkdir, Path: f.Path, Meta: f.Meta}))
	case api.KLink:
		must(t, d.Do(api.Op{Kind: api.OSymlink, Path: f.Path, Text: f.Text, Meta: f.Meta}))
	default:
		must(t, d.Do(api.Op{Kind: api.OCreate, Path: f.Path, Meta: f.Meta}))
		must(t, d.Do(api.Op{Kind: api.OWrite, Path: f.Path, Text: f.Text}))
		must(t, d.Sync(f.Path))
	}
}

// look is all that a disk tells.
func look(d *disk.Disk) string {
	return fmt.Sprint(d.Image(), d.Kept(), d.Dirty(), d.Steps(), d.Pending(), d.On())
}

// off is a disk without power.
func off(d *disk.Disk) *disk.Disk {
	d.Fuse(0)
	d.Sync("/")
	return d
}

// P32.1

func TestFile(t *testing.T) {
	t.Parallel()
	moved := func(by string) api.State { return api.State{Diverts: []api.Divert{{Path: "/f", To: "/g", By: by}}} }
	own := func(p string, m api.Meta) api.State { return api.State{Overs: []api.Over{{Path: p, Meta: m}}} }
	uid, gid := meta, meta
	uid.Uid, gid.Gid = 2, 1
	none := api.State{}
	for _, c := range []struct {
		what string
		on   []api.File
		st   api.State
		f    api.File
		want string
	}{
		{"a file that is there", []api.File{file("/f", "x")}, none, file("/f", "x"), ""},
		{"a conffile that is there", []api.File{file("/f", "x")}, none, conffile("/f", "x"), ""},
		{"a link that is there", []api.File{link("/f", "x")}, none, link("/f", "x"), ""},
		{"a directory that is there", []api.File{dir("/f")}, none, dir("/f"), ""},
		{"a directory that has something", []api.File{dir("/f"), file("/f/f", "x")}, none, dir("/f"), ""},
		{"an empty file", []api.File{file("/f", "")}, none, file("/f", ""), ""},

		{"no file", nil, none, file("/f", "x"), "missing"},
		{"no link", nil, none, link("/f", "x"), "missing"},
		{"no directory", nil, none, dir("/f"), "missing"},
		{"no directory for it", nil, none, file("/d/f", "x"), "missing"},
		{"a file for its directory", []api.File{file("/d", "")}, none, file("/d/f", "x"), "missing"},
		{"no path", []api.File{file("/f", "x")}, none, file("f", "x"), "missing"},
		{"a path in another form", []api.File{file("/f", "x")}, none, file("//f", "x"), "missing"},
		{"all else is wrong too", nil, own("/f", other), link("/f", "y"), "missing"},

		{"a directory for a file", []api.File{dir("/f")}, none, file("/f", ""), "kind"},
		{"a link for a file", []api.File{link("/f", "x")}, none, file("/f", "x"), "kind"},
		{"a file for a link", []api.File{file("/f", "x")}, none, link("/f", "x"), "kind"},
		{"a directory for a link", []api.File{dir("/f")}, none, link("/f", "x"), "kind"},
		{"a file for a directory", []api.File{file("/f", "")}, none, dir("/f"), "kind"},
		{"a link for a directory", []api.File{link("/f", "/etc")}, none, dir("/f"), "kind"},
		{"another kind, text and meta", []api.File{with(link("/f", "x"), other)}, none, file("/f", "y"), "kind"},
		{"no kind", []api.File{file("/f", "x")}, none, api.File{Path: "/f", Text: "x", Meta: meta}, "kind"},

		{"another text", []api.File{file("/f", "y")}, none, file("/f", "x"), "text"},
		{"an empty text", []api.File{file("/f", "")}, none, file("/f", "x"), "text"},
		{"a longer text", []api.File{file("/f", "xy")}, none, file("/f", "x"), "text"},
		{"a link to something else", []api.File{link("/f", "y")}, none, link("/f", "x"), "text"},
		{"another text and meta", []api.File{with(file("/f", "y"), other)}, none, file("/f", "x"), "text"},
		{"a directory that is to have a text", []api.File{dir("/f")}, none, api.File{Path: "/f", Kind: api.KDir, Text: "x"}, "text"},

		{"another mode", []api.File{with(file("/f", "x"), other)}, none, file("/f", "x"), "meta"},
		{"another uid", []api.File{with(file("/f", "x"), uid)}, none, file("/f", "x"), "meta"},
		{"another gid", []api.File{with(file("/f", "x"), gid)}, none, file("/f", "x"), "meta"},
		{"another mode of a link", []api.File{with(link("/f", "x"), other)}, none, link("/f", "x"), "meta"},
		{"another mode of a directory", []api.File{with(dir("/f"), other)}, none, dir("/f"), ""},

		{"an override", []api.File{with(file("/f", "x"), other)}, own("/f", other), file("/f", "x"), ""},
		{"an override that it does not have", []api.File{file("/f", "x")}, own("/f", other), file("/f", "x"), "meta"},
		{"another one's override", []api.File{with(file("/f", "x"), other)}, own("/g", other), file("/f", "x"), "meta"},
		{"an override of a directory", []api.File{dir("/f")}, own("/f", other), dir("/f"), ""},
		{"an override, and another text", []api.File{file("/f", "y")}, own("/f", other), file("/f", "x"), "text"},

		{"a diverted file", []api.File{file("/g", "x")}, moved(""), file("/f", "x"), ""},
		{"a file of whom it is not diverted for", []api.File{file("/f", "x")}, moved("a"), file("/f", "x"), ""},
		{"a file that is diverted for another one", []api.File{file("/g", "x"), dir("/f")}, moved("b"), file("/f", "x"), ""},
		{"a diverted link", []api.File{link("/g", "x")}, moved(""), link("/f", "x"), ""},
		{"a diverted file that is not there", []api.File{file("/f", "x")}, moved(""), file("/f", "x"), "missing"},
		{"a diverted file with another text", []api.File{file("/f", "x"), file("/g", "y")}, moved("b"), file("/f", "x"), "text"},
		{"what is where another one is diverted to", []api.File{file("/g", "x")}, moved(""), file("/g", "x"), ""},
		{"a directory is never diverted", []api.File{dir("/f")}, moved(""), dir("/f"), ""},
		{"a directory where it would be diverted to", []api.File{dir("/g")}, moved(""), dir("/f"), "missing"},
		{"a diverted file's override is of its path", []api.File{with(file("/g", "x"), other)}, api.State{Diverts: moved("").Diverts, Overs: []api.Over{{Path: "/f", Meta: other}, {Path: "/g", Meta: uid}}}, file("/f", "x"), ""},
	} {
		d := holding(t, c.on...)
		before := look(d)
		if got := audit.File(d, c.st, "a", c.f); got != c.want || look(d) != before {
			t.Errorf("%s: %q, want %q", c.what, got, c.want)
		}
		for _, d := range []*disk.Disk{nil, {}, off(d)} {
			if got := audit.File(d, c.st, "a", c.f); got != "missing" {
				t.Errorf("%s, without a disk or power: %q", c.what, got)
			}
		}
	}
}

// some is a package whose files are wrong in each way, and the disk with them.
func some(t *testing.T) (api.Package, *disk.Disk) {
	x := api.Package{Name: "a", Version: "1", Files: []api.File{
		dir("/d"), file("/d/gone", "x"), file("/d/kind", "x"), file("/d/meta", "x"), file("/d/right", "x"), conffile("/d/text", "x"), conffile("/e", "x"), link("/f", "x"),
	}}
	return x, holding(t, dir("/d"), link("/d/kind", "x"), with(file("/d/meta", "x"), other), file("/d/right", "x"), file("/d/text", "mine"), link("/f", "y"))
}

// wrong are those files.
func wrong() []audit.Find {
	return []audit.Find{
		{"a", "missing", "/d/gone", false}, {"a", "kind", "/d/kind", false}, {"a", "meta", "/d/meta", false},
		{"a", "text", "/d/text", true}, {"a", "missing", "/e", true}, {"a", "text", "/f", false},
	}
}

// but is what was found, but for some paths.
func but(l []audit.Find, paths ...string) []audit.Find {
	return slices.DeleteFunc(slices.Clone(l), func(x audit.Find) bool { return slices.Contains(paths, x.Path) })
}

func listed(name string, paths ...string) api.List { return api.List{Name: name, Paths: paths} }

func TestPackage(t *testing.T) {
	t.Parallel()
	x, d := some(t)
	all := pack.Paths(x)
	backwards := slices.Clone(x.Files)
	slices.Reverse(backwards)
	last := wrong()
	slices.Reverse(last)
	for _, c := range []struct {
		what  string
		files []api.File
		lists []api.List
		want  []audit.Find
	}{
		{"all", x.Files, []api.List{listed("a", all...)}, wrong()},
		{"in their order", backwards, []api.List{listed("a", all...)}, last},
		{"no list", x.Files, nil, nil},
		{"an empty list", x.Files, []api.List{listed("a")}, nil},
		{"another one's list", x.Files, []api.List{listed("b", all...)}, nil},
		{"some that it lost", x.Files, []api.List{listed("a", "/d", "/d/gone", "/d/text"), listed("b", all...)}, []audit.Find{wrong()[0], wrong()[3]}},
		{"one that it lost", x.Files, []api.List{listed("a", slices.DeleteFunc(slices.Clone(all), func(s string) bool { return s == "/e" })...)}, but(wrong(), "/e")},
		{"the first list of the name", x.Files, []api.List{listed("a", "/e"), listed("a", all...)}, wrong()[4:5]},
		{"more in the list", x.Files[4:6], []api.List{listed("a", append(all, "/z")...)}, wrong()[3:4]},
		{"no files", nil, []api.List{listed("a", all...)}, nil},
		{"a file twice", []api.File{x.Files[6], x.Files[6]}, []api.List{listed("a", all...)}, []audit.Find{wrong()[4], wrong()[4]}},
	} {
		y := x
		y.Files = append(make([]api.File, 0, 20), c.files...)
		st := api.State{Lists: append(make([]api.List, 0, 9), c.lists...)}
		before := fmt.Sprint(y.Files[:20], st.Lists[:9], look(d))
		if got := audit.Package(d, st, y); !slices.Equal(got, c.want) {
			t.Errorf("%s: %v, want %v", c.what, got, c.want)
		}
		if now := fmt.Sprint(y.Files[:20], st.Lists[:9], look(d)); now != before {
			t.Errorf("%s: what was given was changed", c.what)
		}
	}
	// The name is that of the package, for whom a path may not be diverted.
	x, d = api.Package{Name: "b", Files: []api.File{file("/f", "x")}}, holding(t, file("/g", "x"))
	st := api.State{Lists: []api.List{listed("b", "/f")}, Diverts: []api.Divert{{Path: "/f", To: "/g", By: "b"}}}
	if got, want := audit.Package(d, st, x), []audit.Find{{"b", "missing", "/f", false}}; !slices.Equal(got, want) {
		t.Errorf("%v, want %v", got, want)
	}
	st.Diverts[0].By = "a"
	if got := audit.Package(d, st, x); len(got) > 0 {
		t.Errorf("%v", got)
	}
}

// Without a disk, or power, nothing is there.
func TestWithout(t *testing.T) {
	t.Parallel()
	x, d := some(t)
	st := api.State{Lists: []api.List{listed("a", pack.Paths(x)...)}, Records: []api.Record{{Name: "a", Version: "1", State: api.SInstalled}}}
	var want []audit.Find
	for _, f := range x.Files {
		want = append(want, audit.Find{Name: "a", What: "missing", Path: f.Path, Conf: f.Conf})
	}
	for _, d := range []*disk.Disk{nil, {}, off(d)} {
		if got := audit.Package(d, st, x); !slices.Equal(got, want) {
			t.Errorf("%v, want %v", got, want)
		}
		if got := audit.All(d, st, []api.Package{x}); !slices.Equal(got, want) {
			t.Errorf("%v, want %v", got, want)
		}
	}
}

// P32.2

func TestAll(t *testing.T) {
	t.Parallel()
	x, d := some(t)
	newer, unlike := x, x
	newer.Version, newer.Files = "2", []api.File{file("/f", "newer")}
	unlike.Files = []api.File{file("/f", "unlike")}
	b := api.Package{Name: "b", Version: "1", Files: []api.File{dir("/b"), file("/d/right", "x")}}
	pool := []api.Package{b, newer, x, unlike}
	lists := []api.List{listed("a", pack.Paths(x)...), listed("b", "/b", "/d/right")}
	rec := func(name, version string, state int) api.Record {
		return api.Record{Name: name, Version: version, State: state}
	}
	lacking := []audit.Find{{"b", "missing", "/b", false}}
	for state := -1; state <= 9; state++ {
		var want []audit.Find
		if state >= api.SUnpacked {
			want = wrong()
		}
		st := api.State{Records: []api.Record{rec("a", "1", state)}, Lists: lists}
		if got := audit.All(d, st, pool); !slices.Equal(got, want) {
			t.Errorf("in state %d: %v, want %v", state, got, want)
		}
	}
	for _, c := range []struct {
		what string
		l    []api.Record
		pool []api.Package
		want []audit.Find
	}{
		{"nothing", nil, pool, nil},
		{"in the order of records", []api.Record{rec("b", "1", api.SHalfConf), rec("a", "1", api.SInstalled)}, pool, append(slices.Clone(lacking), wrong()...)},
		{"in that of packages no more", []api.Record{rec("a", "1", api.SUnpacked), rec("b", "1", api.SPending)}, pool, append(wrong(), lacking...)},
		{"the version that is there", []api.Record{rec("a", "2", api.SInstalled)}, pool, []audit.Find{{"a", "kind", "/f", false}}},
		{"a version that is not in the pool", []api.Record{rec("a", "3", api.SInstalled), rec("b", "1", api.SAwaited)}, pool, lacking},
		{"a name that is not in the pool", []api.Record{rec("c", "1", api.SInstalled)}, pool, nil},
		{"the first one of the pool", []api.Record{rec("a", "1", api.SInstalled)}, []api.Package{unlike, x}, []audit.Find{{"a", "kind", "/f", false}}},
		{"no pool", []api.Record{rec("a", "1", api.SInstalled)}, nil, nil},
		{"a record twice", []api.Record{rec("b", "1", api.SInstalled), rec("b", "1", api.SInstalled)}, pool, append(slices.Clone(lacking), lacking...)},
	} {
		before := look(d) + fmt.Sprint(c.pool)
		if got := audit.All(d, api.State{Records: c.l, Lists: lists}, c.pool); !slices.Equal(got, c.want) || look(d)+fmt.Sprint(c.pool) != before {
			t.Errorf("%s: %v, want %v", c.what, got, c.want)
		}
	}
}

func TestText(t *testing.T) {
	t.Parallel()
	for want, l := range map[string][]audit.Find{
		"":                  nil,
		"a text - /bin/a\n": {{"a", "text", "/bin/a", false}},
		"a missing c /e\n":  {{"a", "missing", "/e", true}},
		"a kind - /b\nb meta c /a\na kind - /b\n": {{"a", "kind", "/b", false}, {"b", "meta", "/a", true}, {"a", "kind", "/b", false}},
		"  - \n": {{}},
	} {
		if got := audit.Text(l); got != want {
			t.Errorf("%q, want %q", got, want)
		}
	}
	if got, want := audit.Text(wrong()), "a missing - /d/gone\na kind - /d/kind\na meta - /d/meta\na text c /d/text\na missing c /e\na text - /f\n"; got != want {
		t.Errorf("%q, want %q", got, want)
	}
}

func pick[T any](r *rand.Rand, l ...T) T { return l[r.IntN(len(l))] }

// randomPackage is a package with files of all kinds.
func randomPackage(r *rand.Rand, version string) api.Package {
	x := api.Package{Name: "a", Version: version}
	for _, p := range []string{"/c", "/d", "/d/e", "/d/f", "/g", "/h"} {
		f := pick(r, file(p, version), file(p, "x"), link(p, version), conffile(p, version))
		switch {
		case p == "/d":
			f = dir(p)
		case r.IntN(4) == 0:
			continue
		}
		x.Files = append(x.Files, with(f, pick(r, meta, other)))
	}
	return x
}

// P32.3, P32.4

// Behind Unpack nothing is wrong but conffiles; then what is removed is missing,
// and what is written has another text.
func TestUnpacked(t *testing.T) {
	t.Parallel()
	confs, changes := 0, 0
	for seed := range uint64(400) {
		r := rand.New(rand.NewPCG(32, seed))
		d := holding(t, file("/c", "was"), with(dir("/d"), other))
		st := api.State{
			Diverts: pick(r, nil, []api.Divert{{Path: "/g", To: "/d/x"}}, []api.Divert{{Path: "/d/e", To: "/y", By: "b"}}, []api.Divert{{Path: "/g", To: "/y", By: "a"}}),
			Overs:   pick(r, nil, []api.Over{{Path: "/d", Meta: meta}, {Path: "/d/e", Meta: other}, {Path: "/g", Meta: api.Meta{Uid: 9}}}),
		}
		must(t, store.Diverts(d, st.Diverts))
		must(t, store.Overs(d, st.Overs))
		var x api.Package
		for _, version := range []string{"1", "2", "3"} {
			x = randomPackage(r, version)
			var e api.Errno
			st, _, e = engine.Unpack(d, st, x, nil)
			must(t, e)
			for _, f := range audit.Package(d, st, x) {
				confs++
				if !f.Conf {
					t.Fatalf("%d: behind Unpack %v", seed, f)
				}
			}
			if p := pick(r, "/c", "/h"); pack.File(x.Files, p) >= 0 {
				d.Do(api.Op{Kind: api.OWrite, Path: p, Text: "mine"})
			}
		}
		for _, f := range x.Files {
			if f.Kind != api.KFile {
				continue
			}
			changes++
			changed(t, d, st, x, f)
		}
	}
	if confs < 20 || changes < 200 {
		t.Errorf("%d conffiles, %d changes", confs, changes)
	}
}

// changed sees that a file that is written, and then removed, is found.
func changed(t *testing.T, d *disk.Disk, st api.State, x api.Package, f api.File) {
	t.Helper()
	at := divs.True(st.Diverts, f.Path, x.Name)
	is, e := d.Stat(at)
	must(t, e)
	if is.Kind != api.KFile {
		return
	}
	must(t, d.Do(api.Op{Kind: api.OWrite, Path: at, Text: strings.Repeat("other", 2)}))
	if want := (audit.Find{Name: "a", What: "text", Path: f.Path, Conf: f.Conf}); !slices.Contains(audit.All(d, st, []api.Package{x}), want) {
		t.Fatalf("%v is not found", want)
	}
	must(t, d.Do(api.Op{Kind: api.OUnlink, Path: at}))
	if want := (audit.Find{Name: "a", What: "missing", Path: f.Path, Conf: f.Conf}); !slices.Contains(audit.All(d, st, []api.Package{x}), want) {
		t.Fatalf("%v is not found", want)
	}
}

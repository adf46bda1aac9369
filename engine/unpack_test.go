package engine_test

import (
	"fmt"
	"slices"
	"strings"
	"testing"

	"cellarer/api"
	"cellarer/bits"
	"cellarer/disk"
	"cellarer/engine"
	"cellarer/overs"
	"cellarer/place"
)

// unpack is Unpack of a package as a call.
func unpack(t *testing.T, x api.Package) call {
	return func(d *disk.Disk, st api.State, codes []int) answer {
		x := spared(x)
		before := whole(x)
		got, left, e := engine.Unpack(d, st, x, codes)
		if whole(x) != before {
			t.Errorf("the package was changed: %s, was %s", whole(x), before)
		}
		return answer{got, left, e}
	}
}

func item(f api.File, at string, fresh bool) place.Item {
	return place.Item{File: f, At: at, Fresh: fresh}
}

// overridden is a file with a meta that overrides its own.
func overridden(f api.File) api.File {
	f.Meta = own
	return f
}

// beside are the packages beside a, in all tests of an upgrade.
func beside() []api.Record {
	return []api.Record{
		{Name: "b", Version: "1", State: api.SInstalled},
		{Name: "c", Version: "1", State: api.SAwaited, Awaited: []string{"a"}},
		{Name: "d", Version: "1", State: api.SConfig},
	}
}

// first is what is known of a ahead of an upgrade.
func first() api.Record {
	return api.Record{
		Name: "a", Version: "1", State: api.SAwaited, Awaited: []string{"c"}, Pending: []string{"u"}, Replaces: []string{"d"},
		Confs: confs("1", "/etc/changed", "/etc/gone", "/etc/old", "/etc/same"),
	}
}

// upgraded is a world in which a is to be upgraded: of its files some change, some
// go, some are conffiles, some are diverted, and some are another one's too.
func upgraded() world {
	return world{
		st: api.State{
			Records:   append([]api.Record{first()}, beside()...),
			Diverts:   []api.Divert{{Path: "/div", To: "/div.x"}, {Path: "/etc/old", To: "/etc/old.y", By: "y"}, {Path: "/old/moved", To: "/moved", By: "y"}},
			Overs:     []api.Over{{Path: "/bin/a", Meta: own}},
			Interests: []api.Interest{in("/etc", "c"), in("/old", "c"), in("/opt", "c"), in("gone", "a"), in("u", "a")},
			Fired:     []api.Fired{by("u", "z")},
			Lists: []api.List{
				listOf("a", "/bin", "/bin/a", "/div", "/etc", "/etc/changed", "/etc/gone", "/etc/old", "/etc/same", "/old", "/old/f", "/old/moved", "/shared", "/shared/f", "/was", "/was/f"),
				listOf("b", "/bin", "/bin/new", "/usr", "/usr/b"),
				listOf("c", "/shared", "/shared/f"),
			},
		},
		on: []api.File{
			dir("/bin"), file("/bin/a", "a1"), file("/bin/new", "of b"), file("/div.x", "div1"), dir("/etc"), file("/etc/changed", "mine"), file("/etc/old.y", "1"), file("/etc/same", "1"),
			file("/moved", "of a"), dir("/old"), file("/old/f", "f"), file("/old/moved", "of y"), dir("/shared"), file("/shared/f", "shared"), dir("/usr"), file("/usr/b", "b"), dir("/was"), link("/was/f", "f"),
		},
	}
}

// second is the package to which a is upgraded.
func second() api.Package {
	return api.Package{
		Name: "a", Version: "2", Depends: [][]api.Rel{rels("none", "b")}, Conflicts: rels("d"), Replaces: []string{"none", "b"},
		Files: []api.File{
			dir("/bin"), file("/bin/a", "a2"), file("/bin/new", "of a"), file("/div", "div2"), dir("/etc"), conffile("/etc/changed", "2"), conffile("/etc/gone", "2"), conffile("/etc/new", "2"), conffile("/etc/same", "2"),
			dir("/opt"), link("/opt/l", "to"),
		},
		Interests: []api.Interest{{Trigger: "u", Noawait: true}, {Trigger: "/opt"}},
		Scripts: [4][]api.Act{{
			{Kind: api.CDivert, Path: "/bin/new", Name: "y", Flag: true},
			{Kind: api.COver, Path: "/opt/l", Meta: own},
			fire("u"),
		}, {fails()}, {fails()}, {fails()}},
	}
}

func secondRecord(state int, l []api.Conf) api.Record {
	x := second()
	return api.Record{Name: "a", Version: "2", State: state, Depends: x.Depends, Conflicts: x.Conflicts, Replaces: x.Replaces, Confs: l}
}

// upgrade is what is to be done in an upgrade of a.
func upgrade() plot {
	x, w := second(), upgraded()
	lists, old := w.st.Lists, w.st.Records
	return plot{
		first: []step{
			script("a", x.Scripts[api.PreInst]...),
			records(append([]api.Record{secondRecord(api.SHalfInst, old[0].Confs)}, beside()...)...),
		},
		items: []place.Item{
			item(x.Files[0], "/bin", false), item(overridden(x.Files[1]), "/bin/a", false), item(x.Files[2], "/bin/new.distrib", false), item(x.Files[3], "/div.x", false), item(x.Files[4], "/etc", false),
			item(x.Files[5], "/etc/changed.dpkg-dist", true), item(x.Files[7], "/etc/new", true), item(x.Files[8], "/etc/same", false),
			item(x.Files[9], "/opt", true), item(overridden(x.Files[10]), "/opt/l", true),
		},
		store: []stored{
			{list("b", "/bin", "/usr", "/usr/b"), list("b", lists[1].Paths...)},
			{list("a", "/bin", "/bin/a", "/bin/new", "/div", "/etc", "/etc/changed", "/etc/gone", "/etc/new", "/etc/same", "/opt", "/opt/l"), list("a", lists[0].Paths...)},
			{interests(in("/etc", "c"), in("/old", "c"), in("/opt", "a"), in("/opt", "c"), api.Interest{Trigger: "u", Package: "a", Noawait: true}), interests(w.st.Interests...)},
			{records(append([]api.Record{secondRecord(api.SUnpacked, confs("2", "/etc/changed", "/etc/gone", "/etc/new", "/etc/same"))}, beside()...)...), nil},
		},
		back: records(old...),
		last: []step{
			unlink("/was/f"), rmdir("/was"), unlink("/moved"), unlink("/old/f"), sync,
			fired(by("/etc", "a"), by("/opt", "a"), by("u", "a", "z")),
		},
	}
}

// P24.1

func TestUpgrade(t *testing.T) {
	t.Parallel()
	x := trial{"an upgrade", upgraded(), unpack(t, second()), []int{0, 5}, upgrade(), api.OK}
	x.hold(t)
	x.holdBoth(t)
	x.in, x.what = nil, "without codes"
	x.hold(t)
	x.in, x.what, x.e = []int{3, 4}, "with a script that fails", api.ESCRIPT
	x.hold(t)
}

func newRecord(name string, state int) api.Record {
	return api.Record{Name: name, Version: "1", State: state}
}

// fresh is what is to be done where a package comes of which nothing is known.
func fresh(state api.Record, paths []string, items []place.Item, last ...step) plot {
	half := state
	half.State, half.Confs = api.SHalfInst, nil
	return plot{
		first: []step{script(state.Name), records(half)},
		items: items,
		store: []stored{{list(state.Name, paths...), unlist(state.Name)}, {records(state), nil}},
		back:  records(),
		last:  last,
	}
}

func TestUnpackAnew(t *testing.T) {
	t.Parallel()
	nothing := api.Package{Name: "n", Version: "1"}
	some := api.Package{Name: "n", Version: "1", Files: []api.File{dir("/d"), conffile("/d/c", "1"), file("/d/f", ""), link("/l", "d")}}
	paths := []string{"/d", "/d/c", "/d/f", "/l"}
	items := []place.Item{item(some.Files[0], "/d", true), item(some.Files[1], "/d/c", true), item(some.Files[2], "/d/f", true), item(some.Files[3], "/l", true)}
	told := newRecord("n", api.SUnpacked)
	told.Confs = confs("1", "/d/c")
	interested := nothing
	interested.Interests = []api.Interest{{Trigger: "t", Package: "other"}, {Trigger: "/"}}
	own := []api.Interest{in("/", "n"), in("t", "n")}
	withOwn := fresh(newRecord("n", api.SUnpacked), nil, nil)
	withOwn.store = []stored{withOwn.store[0], {interests(own...), interests()}, withOwn.store[1]}
	firing := interested
	firing.Files = some.Files
	all := fresh(told, paths, items, fired(by("/", "n")))
	all.store = []stored{all.store[0], {interests(own...), interests()}, all.store[1]}
	others := all
	others.store = []stored{all.store[0], {interests(append(slices.Clone(own), in("u", "x"))...), interests(in("u", "x"))}, all.store[2]}
	moved := fresh(told, paths, []place.Item{items[0], item(some.Files[1], "/c", true), items[2], item(some.Files[3], "/l.x", false)}, fired(by("/d", "n"), by("/d/f", "x"), by("/l", "n")))
	holdAll(t, []trial{
		{"nothing", world{}, unpack(t, nothing), []int{0}, fresh(newRecord("n", api.SUnpacked), nil, nil), api.OK},
		{"some files", world{}, unpack(t, some), nil, fresh(told, paths, items), api.OK},
		{"interests", world{}, unpack(t, interested), nil, withOwn, api.OK},
		{"files that fire an interest of its own", world{}, unpack(t, firing), nil, all, api.OK},
		{"beside other interests", world{st: api.State{Interests: []api.Interest{in("u", "x")}}}, unpack(t, firing), nil, others, api.OK},
		// What fires is the path of the package, diverted or not; a directory does not.
		{"files that are diverted", world{api.State{
			Diverts:   []api.Divert{{Path: "/d", To: "/e"}, {Path: "/d/c", To: "/c"}, {Path: "/d/f", To: "/f", By: "n"}, {Path: "/l", To: "/l.x", By: "x"}},
			Interests: []api.Interest{in("/c", "x"), in("/d", "x"), in("/l", "y"), in("/l.x", "y")},
			Fired:     []api.Fired{by("/d/f", "x")},
		}, []api.File{file("/l.x", "was")}}, unpack(t, some), nil, moved, api.OK},
		{"directories that fire nothing", world{api.State{Interests: []api.Interest{in("/d", "x")}}, []api.File{dir("/d")}}, unpack(t, api.Package{Name: "n", Version: "1", Files: []api.File{dir("/d"), dir("/d/e")}}), nil,
			fresh(newRecord("n", api.SUnpacked), []string{"/d", "/d/e"}, []place.Item{item(dir("/d"), "/d", false), item(dir("/d/e"), "/d/e", true)}), api.OK},
	})
}

// again is a world in which a is known, in some state, with conffiles that came
// with the text 1 and are there with another text each.
func again(state int, paths []string, l []api.Conf, on ...api.File) world {
	x := newRecord("a", state)
	x.Confs = l
	return world{api.State{Records: []api.Record{x}, Lists: []api.List{listOf("a", paths...)}}, on}
}

// anew is what is to be done where a package comes again, in a world of again.
func anew(w world, l []api.Conf, paths []string, items []place.Item, last ...step) plot {
	half, done := w.st.Records[0], w.st.Records[0]
	half.State, done.State, done.Confs = api.SHalfInst, api.SUnpacked, l
	return plot{
		first: []step{script("a"), records(half)},
		items: items,
		store: []stored{{list("a", paths...), list("a", w.st.Lists[0].Paths...)}, {records(done), nil}},
		back:  records(w.st.Records...),
		last:  last,
	}
}

// Whatever state a package is in, it may be unpacked again, and what it awaits
// or has pending goes.
func TestUnpackStates(t *testing.T) {
	t.Parallel()
	x := api.Package{Name: "a", Version: "1", Files: []api.File{file("/f", "2")}}
	for state := api.SConfig; state <= api.SInstalled; state++ {
		w := again(state, []string{"/f"}, nil, file("/f", "1"))
		want := anew(w, nil, []string{"/f"}, []place.Item{item(x.Files[0], "/f", false)})
		switch state {
		case api.SPending:
			w.st.Records[0].Pending = []string{"t"}
		case api.SAwaited:
			w.st.Records[0].Awaited = []string{"b"}
		}
		want.back = records(w.st.Records...)
		trial{fmt.Sprint("in the state ", state), w, unpack(t, x), nil, want, api.OK}.hold(t)
	}
}

func TestUnpackConffiles(t *testing.T) {
	t.Parallel()
	one := func(f api.File) api.Package { return api.Package{Name: "a", Version: "1", Files: []api.File{f}} }
	next, none := conffile("/c", "2"), []place.Item(nil)
	changed := again(api.SConfig, []string{"/c"}, confs("1", "/c"), file("/c", "mine"))
	sum := confs("2", "/c")
	diverted := again(api.SInstalled, []string{"/c"}, confs("1", "/c"), file("/c.x", "mine"), file("/c", "other"))
	diverted.st.Diverts = []api.Divert{{Path: "/c", To: "/c.x"}}
	var l []trial
	for _, c := range []struct {
		what  string
		w     world
		f     api.File
		sum   []api.Conf
		items []place.Item
	}{
		{"that is as it was", again(api.SConfig, []string{"/c"}, confs("1", "/c"), file("/c", "1")), next, sum, []place.Item{item(next, "/c", false)}},
		{"that was changed", changed, next, sum, []place.Item{item(next, "/c.dpkg-dist", true)}},
		{"that was changed, beside which something is", again(api.SConfig, []string{"/c"}, confs("1", "/c"), file("/c", "mine"), file("/c.dpkg-dist", "1")), next, sum, []place.Item{item(next, "/c.dpkg-dist", false)}},
		{"that was changed, and comes as it was", changed, conffile("/c", "1"), confs("1", "/c"), none},
		{"that was changed to what comes", changed, conffile("/c", "mine"), confs("mine", "/c"), none},
		{"that went", again(api.SConfig, []string{"/c"}, confs("1", "/c")), next, sum, none},
		{"that is new", again(api.SConfig, []string{"/c"}, nil), next, sum, []place.Item{item(next, "/c", true)}},
		{"that is new, where something is", again(api.SConfig, []string{"/c"}, nil, file("/c", "mine")), next, sum, []place.Item{item(next, "/c.dpkg-dist", true)}},
		{"that is new, where it is already", again(api.SConfig, []string{"/c"}, nil, file("/c", "2")), next, sum, none},
		{"where a link is", again(api.SConfig, []string{"/c"}, confs("1", "/c"), link("/c", "mine")), next, sum, []place.Item{item(next, "/c", false)}},
		{"that is no conffile any more", changed, file("/c", "2"), nil, []place.Item{item(file("/c", "2"), "/c", false)}},
		{"that was changed where it is diverted", diverted, next, sum, []place.Item{item(next, "/c.x.dpkg-dist", true)}},
	} {
		l = append(l, trial{"a conffile " + c.what, c.w, unpack(t, one(c.f)), nil, anew(c.w, c.sum, []string{"/c"}, c.items), api.OK})
	}
	holdAll(t, l)
}

// What a package had and has no more goes, unless something keeps it.
func TestUnpackOldPaths(t *testing.T) {
	t.Parallel()
	x := api.Package{Name: "a", Version: "1", Files: []api.File{dir("/d"), file("/d/f", "2")}}
	items := []place.Item{item(x.Files[0], "/d", false), item(x.Files[1], "/d/f", false)}
	base := []api.File{dir("/d"), file("/d/f", "1")}
	var l []trial
	for _, c := range []struct {
		what   string
		old    []string
		more   []api.File
		confs  []api.Conf
		divert []api.Divert
		lists  []api.List
		last   []step
	}{
		{"nothing", []string{"/d", "/d/f"}, nil, nil, nil, nil, nil},
		{"a file", []string{"/d/g"}, []api.File{file("/d/g", "")}, nil, nil, nil, []step{unlink("/d/g"), sync}},
		{"a link", []string{"/d/g"}, []api.File{link("/d/g", "x")}, nil, nil, nil, []step{unlink("/d/g"), sync}},
		{"a directory that is empty", []string{"/e"}, []api.File{dir("/e")}, nil, nil, nil, []step{rmdir("/e"), sync}},
		{"one that is not", []string{"/e"}, []api.File{dir("/e"), file("/e/f", "")}, nil, nil, nil, nil},
		{"one in another one", []string{"/e", "/e/e", "/e/f"}, []api.File{dir("/e"), dir("/e/e"), file("/e/f", "")}, nil, nil, nil, []step{unlink("/e/f"), rmdir("/e/e"), rmdir("/e"), sync}},
		{"what is not there", []string{"/e", "/e/f"}, nil, nil, nil, nil, nil},
		{"what is below a file", []string{"/e", "/e/f"}, []api.File{file("/e", "")}, nil, nil, nil, []step{unlink("/e"), sync}},
		{"the root", []string{"/"}, nil, nil, nil, nil, nil},
		{"a conffile", []string{"/g"}, []api.File{file("/g", "1")}, confs("1", "/g"), nil, nil, nil},
		{"a conffile of which it is no path", []string{"/d/f"}, []api.File{file("/g", "1")}, confs("1", "/g"), nil, nil, nil},
		{"a conffile's directory", []string{"/e", "/e/g"}, []api.File{dir("/e"), file("/e/g", "1")}, confs("1", "/e/g"), nil, nil, nil},
		{"what is where a conffile is", []string{"/e"}, []api.File{file("/g", "1")}, confs("1", "/g"), []api.Divert{{Path: "/e", To: "/g"}}, nil, nil},
		{"what was where a conffile is", []string{"/g"}, []api.File{file("/g", "1"), file("/h", "1")}, confs("1", "/h"), []api.Divert{{Path: "/h", To: "/g"}}, nil, nil},
		{"what is where a conffile would be", []string{"/g"}, []api.File{file("/g", "1"), file("/h", "1")}, confs("1", "/h"), []api.Divert{{Path: "/h", To: "/g", By: "a"}}, nil, []step{unlink("/g"), sync}},
		{"what is diverted", []string{"/g"}, []api.File{file("/g", "x"), file("/h", "1")}, nil, []api.Divert{{Path: "/g", To: "/h", By: "x"}}, nil, []step{unlink("/h"), sync}},
		{"what is diverted by itself", []string{"/g"}, []api.File{file("/g", "1"), file("/h", "x")}, nil, []api.Divert{{Path: "/g", To: "/h", By: "a"}}, nil, []step{unlink("/g"), sync}},
		{"a directory that is diverted", []string{"/g"}, []api.File{dir("/g"), dir("/h")}, nil, []api.Divert{{Path: "/g", To: "/h"}}, nil, []step{rmdir("/g"), sync}},
		{"a directory that is diverted to a file", []string{"/g"}, []api.File{dir("/g"), file("/h", "")}, nil, []api.Divert{{Path: "/g", To: "/h"}}, nil, []step{unlink("/h"), sync}},
		{"a directory that is diverted to nothing", []string{"/g"}, []api.File{dir("/g")}, nil, []api.Divert{{Path: "/g", To: "/h"}}, nil, []step{rmdir("/g"), sync}},
		{"a file that is diverted to nothing", []string{"/g"}, []api.File{file("/g", "")}, nil, []api.Divert{{Path: "/g", To: "/h"}}, nil, nil},
		{"another one's too", []string{"/g"}, []api.File{file("/g", "1")}, nil, nil, []api.List{listOf("b", "/g")}, nil},
		{"another one's directory", []string{"/g"}, []api.File{dir("/g")}, nil, nil, []api.List{listOf("b", "/g")}, nil},
		{"another one's, which is elsewhere", []string{"/g"}, []api.File{file("/g", "1")}, nil, []api.Divert{{Path: "/g", To: "/h", By: "a"}}, []api.List{listOf("b", "/g")}, []step{unlink("/g"), sync}},
		{"where another one's is", []string{"/g"}, []api.File{file("/h", "1")}, nil, []api.Divert{{Path: "/g", To: "/h"}}, []api.List{listOf("b", "/h")}, nil},
		{"where its own new one is", []string{"/g"}, nil, nil, []api.Divert{{Path: "/g", To: "/d/f"}}, nil, nil},
	} {
		w := again(api.SInstalled, c.old, c.confs, append(slices.Clone(base), c.more...)...)
		w.st.Diverts = c.divert
		w.st.Lists = append(w.st.Lists, c.lists...)
		l = append(l, trial{"with the old paths of " + c.what, w, unpack(t, x), nil, anew(w, nil, []string{"/d", "/d/f"}, items, c.last...), api.OK})
	}
	holdAll(t, l)
}

// Lists of those that are replaced lose what comes, and are put back if it does
// not.
func TestUnpackReplaces(t *testing.T) {
	t.Parallel()
	x := api.Package{Name: "n", Version: "1", Replaces: []string{"c", "b", "none", "n"}, Files: []api.File{dir("/d"), file("/d/f", "n"), file("/g", "n")}}
	w := world{
		st: api.State{
			Records: []api.Record{newRecord("b", api.SInstalled), newRecord("z", api.SInstalled)},
			Diverts: []api.Divert{{Path: "/h", To: "/g", By: "x"}},
			Lists:   []api.List{listOf("b", "/d", "/d/f", "/h"), listOf("c", "/d", "/g"), listOf("z", "/d")},
		},
		on: []api.File{dir("/d"), file("/d/f", "b"), file("/g", "b and c"), file("/h", "x")},
	}
	told := newRecord("n", api.SHalfInst)
	told.Replaces = x.Replaces
	done := told
	done.State = api.SUnpacked
	trial{"of two that are replaced", w, unpack(t, x), []int{0, 0}, plot{
		first: []step{script("n"), records(w.st.Records[0], told, w.st.Records[1])},
		items: []place.Item{item(x.Files[0], "/d", false), item(x.Files[1], "/d/f", false), item(x.Files[2], "/g", false)},
		store: []stored{
			{list("b", "/d"), list("b", "/d", "/d/f", "/h")},
			{list("c", "/d"), list("c", "/d", "/g")},
			{list("n", "/d", "/d/f", "/g"), unlist("n")},
			{records(w.st.Records[0], done, w.st.Records[1]), nil},
		},
		back: records(w.st.Records...),
	}, api.OK}.hold(t)
}

// Where there is no room to take all back, what there is room for is taken back.
func TestUnpackNoRoomToUndo(t *testing.T) {
	t.Parallel()
	x := api.Package{Name: "n", Version: "1", Replaces: []string{"b"}, Interests: []api.Interest{{Trigger: "t"}}}
	var items []place.Item
	var paths []string
	for i := range 32 {
		f := conffile(fmt.Sprintf("/%s%02d", strings.Repeat("f", 180), i), "")
		x.Files = append(x.Files, f)
		items = append(items, item(f, f.Path, true))
		paths = append(paths, f.Path)
	}
	w := world{st: api.State{Records: []api.Record{newRecord("b", api.SInstalled)}, Lists: []api.List{listOf("b", append([]string{"/b"}, paths...)...)}}}
	told := newRecord("n", api.SHalfInst)
	told.Replaces = x.Replaces
	done := told
	done.State, done.Confs = api.SUnpacked, confs("", paths...)
	trial := trial{"without room to undo", w, unpack(t, x), nil, plot{
		first: []step{script("n"), records(w.st.Records[0], told)},
		items: items,
		store: []stored{
			{list("b", "/b"), list("b", w.st.Lists[0].Paths...)},
			{list("n", paths...), unlist("n")},
			{interests(in("t", "n")), interests()},
			{records(w.st.Records[0], done), nil},
		},
		back: records(w.st.Records...),
	}, api.OK}
	size := 0
	for _, x := range w.disk(t).Image() {
		size += len(x.Text)
	}
	bound := func(d *disk.Disk) { d.Bound(api.Limits{Bytes: size + 3000}) }
	got, _ := trial.once(t, "", bound)
	// The list that was shortened has no room, all else is as before.
	want := w.st
	want.Lists = []api.List{listOf("b", "/b")}
	if got.e != api.ENOSPC || !same(got.st, want) {
		t.Errorf("%s, want %s", show(got), show(want))
	}
	for n := 0; ; n++ {
		if _, d := trial.once(t, fmt.Sprintf("with %d steps", n), func(d *disk.Disk) {
			bound(d)
			d.Fuse(n)
		}); d.On() {
			return
		}
	}
}

// Interests are written unless there was and is none.
func TestUnpackInterests(t *testing.T) {
	t.Parallel()
	told := newRecord("a", api.SUnpacked)
	half := newRecord("a", api.SHalfInst)
	var l []trial
	for _, c := range []struct {
		what      string
		had       []api.Interest
		own       []api.Interest
		want      []api.Interest
		unchanged bool
	}{
		{"none", nil, nil, nil, true},
		{"none beside others", []api.Interest{in("t", "b")}, nil, nil, true},
		{"one that is there", []api.Interest{in("t", "a")}, []api.Interest{{Trigger: "t"}}, []api.Interest{in("t", "a")}, false},
		{"one that is new", []api.Interest{in("t", "b")}, []api.Interest{{Trigger: "t"}}, []api.Interest{in("t", "a"), in("t", "b")}, false},
		{"one that goes", []api.Interest{in("t", "a"), in("t", "b")}, nil, []api.Interest{in("t", "b")}, false},
		{"the last one that goes", []api.Interest{in("t", "a")}, nil, nil, false},
		{"one that is awaited no more", []api.Interest{in("t", "a")}, []api.Interest{{Trigger: "t", Noawait: true}}, []api.Interest{{Trigger: "t", Package: "a", Noawait: true}}, false},
		{"one for another one", []api.Interest{in("t", "a"), in("u", "a")}, []api.Interest{{Trigger: "v"}, {Trigger: "t"}}, []api.Interest{in("t", "a"), in("v", "a")}, false},
	} {
		w := world{st: api.State{Records: []api.Record{newRecord("a", api.SConfig)}, Interests: c.had}}
		p := plot{
			first: []step{script("a"), records(half)},
			store: []stored{{list("a"), unlist("a")}},
			back:  records(w.st.Records...),
		}
		if !c.unchanged {
			p.store = append(p.store, stored{interests(c.want...), interests(c.had...)})
		}
		p.store = append(p.store, stored{records(told), nil})
		l = append(l, trial{"interests: " + c.what, w, unpack(t, api.Package{Name: "a", Version: "1", Interests: c.own}), nil, p, api.OK})
	}
	holdAll(t, l)
}

// A directory in the way lets Stage fail, or Swap, or Commit, which is not taken
// back.
func TestUnpackInTheWay(t *testing.T) {
	t.Parallel()
	x := api.Package{Name: "a", Version: "1", Files: []api.File{file("/e", "2"), file("/f", "2")}}
	items := []place.Item{item(x.Files[0], "/e", true), item(x.Files[1], "/f", false)}
	for _, c := range []struct {
		at string
		e  api.Errno
	}{{"/f.dpkg-new", api.EISDIR}, {"/f.dpkg-tmp", api.EISDIR}} {
		w := again(api.SInstalled, []string{"/f", "/g"}, nil, file("/f", "1"), dir(c.at), file("/g", "1"))
		trial{"with a directory at " + c.at, w, unpack(t, x), nil, anew(w, nil, []string{"/e", "/f"}, items, unlink("/g"), sync), c.e}.hold(t)
		d := w.disk(t)
		was := entries(d)
		got, _, _ := engine.Unpack(d, w.st, x, nil)
		if !same(got, w.st) || fmt.Sprint(entries(d)) != fmt.Sprint(was) {
			t.Errorf("with a directory at %s: %v %v", c.at, got, entries(d))
		}
	}
	y := api.Package{Name: "a", Version: "1", Files: []api.File{conffile("/c", "2")}}
	w := again(api.SInstalled, []string{"/c", "/g"}, confs("1", "/c"), file("/c", "mine"), dir("/c.dpkg-dist"), file("/g", "1"))
	want := anew(w, confs("2", "/c"), []string{"/c"}, []place.Item{item(y.Files[0], "/c.dpkg-dist", false)}, unlink("/g"), sync)
	trial{"with a directory beside a conffile", w, unpack(t, y), nil, want, api.EISDIR}.hold(t)
	// What can't be printed: the record is not noted, and nothing is done.
	long := api.Package{Name: "a", Version: "1", Depends: slices.Repeat([][]api.Rel{slices.Repeat(rels("aaaaaaaaaaaaaaaaaaaaaaaaaaaaaa"), 64)}, 64)}
	w = again(api.SInstalled, nil, nil)
	trial{"with more relations than a text has room for", w, unpack(t, long), nil, steps(script("a"), fail(api.EARG)), api.EARG}.hold(t)
	// What fires more than there may be has room for nothing else.
	many := world{st: api.State{Records: []api.Record{newRecord("a", api.SInstalled)}, Interests: []api.Interest{in("/f", "b")}}}
	for i := range api.MaxList {
		many.st.Fired = append(many.st.Fired, by(fmt.Sprintf("t%02d", i)))
	}
	z := api.Package{Name: "a", Version: "1", Files: []api.File{file("/f", "")}}
	trial{"with too much that is fired", many, unpack(t, z), nil, plot{
		first: []step{script("a"), records(newRecord("a", api.SHalfInst))},
		items: []place.Item{item(z.Files[0], "/f", true)},
		store: []stored{{list("a", "/f"), unlist("a")}, {records(newRecord("a", api.SUnpacked)), nil}},
		back:  records(many.st.Records...),
		last:  []step{fail(api.EFULL)},
	}, api.EFULL}.hold(t)
}

func manyRecords(n int) []api.Record {
	var out []api.Record
	for i := range n {
		out = append(out, newRecord(fmt.Sprintf("a%02d", i), api.SInstalled))
	}
	return out
}

func manyLists(n int) []api.List {
	var out []api.List
	for _, x := range manyRecords(n) {
		out = append(out, listOf(x.Name))
	}
	return out
}

func manyInterests(n int) []api.Interest {
	var out []api.Interest
	for i := range n {
		out = append(out, in("t", fmt.Sprintf("a%02d", i)))
	}
	return out
}

// The errors ahead of a script, in their order: with each of them, all that
// follow it apply too.
func TestUnpackRefused(t *testing.T) {
	t.Parallel()
	x := api.Package{Name: "n", Version: "1", Conflicts: rels("b"), Files: []api.File{file("/f", ""), file("/none/f", "")}}
	st := api.State{Records: []api.Record{newRecord("b", api.SHalfInst)}, Lists: []api.List{listOf("b", "/f")}, Interests: manyInterests(64)}
	change := func(do func(x *api.Package, st *api.State)) (api.Package, world) {
		x, st := spared(x), spared(st)
		do(&x, &st)
		return x, world{st: st}
	}
	interested := func(x *api.Package) { x.Interests = []api.Interest{{Trigger: "u"}} }
	for _, c := range []struct {
		what string
		do   func(x *api.Package, st *api.State)
		e    api.Errno
	}{
		{"no right package", func(x *api.Package, st *api.State) { x.Name = "N"; interested(x) }, api.EARG},
		{"a package without a version", func(x *api.Package, st *api.State) { x.Version = ""; interested(x) }, api.EARG},
		{"a script that may not be", func(x *api.Package, st *api.State) { x.Scripts[api.PostRm] = acts(api.Act{}); interested(x) }, api.EARG},
		{"too many interests", func(x *api.Package, st *api.State) { interested(x) }, api.EFULL},
		{"a conflict", func(x *api.Package, st *api.State) {}, api.ECONFLICT},
		{"a conflict of the other one", func(x *api.Package, st *api.State) { x.Conflicts = nil; st.Records[0].Conflicts = rels("n") }, api.ECONFLICT},
		{"a conflict with one that is away", func(x *api.Package, st *api.State) { st.Records[0].State = api.SConfig }, api.EOWNED},
		{"a file of another one", func(x *api.Package, st *api.State) { x.Conflicts = nil }, api.EOWNED},
		{"a file of another one, diverted", func(x *api.Package, st *api.State) {
			x.Conflicts, x.Files[0].Path = nil, "/e"
			st.Diverts = []api.Divert{{Path: "/e", To: "/f"}}
		}, api.EOWNED},
		{"a file that is replaced", func(x *api.Package, st *api.State) { x.Conflicts, x.Replaces = nil, []string{"b"} }, api.ENOENT},
		{"a file that is diverted for the other one", func(x *api.Package, st *api.State) {
			x.Conflicts = nil
			st.Diverts = []api.Divert{{Path: "/f", To: "/g", By: "n"}}
		}, api.ENOENT},
		{"many records", func(x *api.Package, st *api.State) { st.Records = manyRecords(64) }, api.EFULL},
		{"many lists", func(x *api.Package, st *api.State) { st.Lists = manyLists(64) }, api.EFULL},
		{"many records of which one is its own", func(x *api.Package, st *api.State) { st.Records = append(manyRecords(63), newRecord("n", api.SConfig)) }, api.EOWNED},
		{"many lists of which one is its own", func(x *api.Package, st *api.State) {
			st.Lists = append(manyLists(63), listOf("n"))
			st.Records = nil
		}, api.ENOENT},
		{"63 records and lists", func(x *api.Package, st *api.State) { st.Records, st.Lists = manyRecords(63), manyLists(63) }, api.ENOENT},
		{"interests that are as many as before", func(x *api.Package, st *api.State) {
			interested(x)
			st.Records, st.Lists, st.Interests[63] = nil, nil, in("t", "n")
		}, api.ENOENT},
		{"64 interests with its own", func(x *api.Package, st *api.State) {
			interested(x)
			st.Records, st.Lists, st.Interests = nil, nil, manyInterests(63)
		}, api.ENOENT},
	} {
		x, w := change(c.do)
		// Its script would do something.
		x.Scripts[api.PreInst] = acts(fire("t"))
		trial{c.what, w, unpack(t, x), []int{1, 2}, steps(fail(c.e)), c.e}.hold(t)
	}
}

// What place.Make says goes ahead of the script, and again behind it.
func TestUnpackPlaces(t *testing.T) {
	t.Parallel()
	files := func(l ...api.File) api.Package {
		return api.Package{Name: "n", Version: "1", Files: l, Scripts: [4][]api.Act{acts(fire("t"))}}
	}
	diverts := func(l ...api.Divert) api.State { return api.State{Diverts: l} }
	for _, c := range []struct {
		what string
		w    world
		x    api.Package
		e    api.Errno
	}{
		{"below nothing", world{}, files(file("/d/f", "")), api.ENOENT},
		{"below a file", world{on: []api.File{file("/d", "")}}, files(file("/d/f", "")), api.ENOTDIR},
		{"a directory where a file is", world{on: []api.File{file("/d", "")}}, files(dir("/d")), api.ENOTDIR},
		{"a file where a directory is", world{on: []api.File{dir("/d")}}, files(file("/d", "")), api.EISDIR},
		{"two at one place", world{st: diverts(api.Divert{Path: "/f", To: "/g"})}, files(file("/f", ""), file("/g", "")), api.EDIVERT},
	} {
		trial{c.what, c.w, unpack(t, c.x), []int{0, 1}, steps(fail(c.e)), c.e}.hold(t)
	}
	// A script lets a file be where none can be.
	x := files(file("/f", ""), file("/g", ""))
	x.Scripts[api.PreInst] = acts(api.Act{Kind: api.CDivert, Path: "/f", To: "/g"})
	trial{"a script that diverts", world{}, unpack(t, x), []int{0, 1}, steps(script("n", x.Scripts[api.PreInst]...), fail(api.EDIVERT)), api.EDIVERT}.hold(t)
	x = files(file("/f", ""))
	x.Scripts[api.PreInst] = acts(api.Act{Kind: api.CDivert, Path: "/f", To: "/none/g"})
	trial{"a script that diverts to nowhere", world{}, unpack(t, x), nil, steps(script("n", x.Scripts[api.PreInst]...), fail(api.ENOENT)), api.ENOENT}.hold(t)
	// A script that fails leaves what its commands did.
	x = files(file("/f", ""))
	x.Scripts[api.PreInst] = acts(fire("t"), fails(), fire("u"))
	trial{"a command that fails", world{}, unpack(t, x), []int{0, 1}, steps(script("n", x.Scripts[api.PreInst]...)), api.ESCRIPT}.hold(t)
}

// P24.5

// Each file that is no conffile is behind Unpack where it is to be, with its
// text, and the meta that overrides its own.
func TestPlaced(t *testing.T) {
	t.Parallel()
	d, x := upgraded().disk(t), second()
	st, _, e := engine.Unpack(d, upgraded().st, x, nil)
	must(t, e)
	placed(t, d, st, x, nil)
	d.Crash(0, nil)
	placed(t, d, st, x, nil)
}

// placed sees that a package's files are in their places. Directories that were
// there keep their metas.
func placed(t *testing.T, d *disk.Disk, st api.State, x api.Package, was map[string]api.Entry) {
	t.Helper()
	now := entries(d)
	for _, f := range x.Files {
		at := whereIs(st, f, x.Name)
		y, has := now[at]
		switch {
		case f.Conf:
		case !has || y.Kind != f.Kind || y.Text != f.Text:
			t.Errorf("%s is %v at %s", f.Path, y, at)
		case f.Kind != api.KDir && y.Meta != overs.Meta(st.Overs, f.Path, f.Meta):
			t.Errorf("%s has %v", f.Path, y.Meta)
		}
	}
}

// P24.7

// kept are the conffiles of a record that somebody changed, by where they are.
func kept(d *disk.Disk, st api.State, r api.Record) map[string]api.Entry {
	out, now := map[string]api.Entry{}, entries(d)
	for _, c := range r.Confs {
		at := whereIs(st, file(c.Path, ""), r.Name)
		if x, has := now[at]; has && (x.Kind != api.KFile || bits.Sum(x.Text) != c.Sum) {
			out[at] = x
		}
	}
	return out
}

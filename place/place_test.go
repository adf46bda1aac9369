package place_test

import (
	"fmt"
	"slices"
	"strings"
	"testing"

	"cellarer/api"
	"cellarer/disk"
	"cellarer/place"
)

const (
	newEnd = ".dpkg-new"
	tmpEnd = ".dpkg-tmp"
)

var (
	oldMeta = api.Meta{Mode: 0o640, Uid: 1, Gid: 2}           // of what is there
	newMeta = api.Meta{Mode: 0o4755, Uid: 3, Gid: 4}          // of what comes
	own     = api.Meta{Mode: 0o400, Uid: api.MaxId, Gid: 777} // of what is overridden
)

// act is a step: an operation, or Sync of its path.
type act struct {
	api.Op
	sync bool
}

func (a act) do(d *disk.Disk) api.Errno {
	if a.sync {
		return d.Sync(a.Path)
	}
	return d.Do(a.Op)
}

func op(kind int, p string) act { return act{Op: api.Op{Kind: kind, Path: p}} }

func sync(p string) act { return act{Op: api.Op{Path: p}, sync: true} }

func unlink(p string) act { return op(api.OUnlink, p) }

func rmdir(p string) act { return op(api.ORmdir, p) }

func mkdir(p string, m api.Meta) act {
	return act{Op: api.Op{Kind: api.OMkdir, Path: p, Meta: m}}
}

func create(p string, m api.Meta) act {
	return act{Op: api.Op{Kind: api.OCreate, Path: p, Meta: m}}
}

func write(p, text string) act {
	return act{Op: api.Op{Kind: api.OWrite, Path: p, Text: text}}
}

func symlink(p, text string, m api.Meta) act {
	return act{Op: api.Op{Kind: api.OSymlink, Path: p, Text: text, Meta: m}}
}

func link(p, to string) act {
	return act{Op: api.Op{Kind: api.OLink, Path: p, To: to}}
}

func rename(p, to string) act {
	return act{Op: api.Op{Kind: api.ORename, Path: p, To: to}}
}

func must(t *testing.T, e api.Errno) {
	t.Helper()
	if e != api.OK {
		t.Fatal(e)
	}
}

// dir, file and toLink are what is there for a test, and also what comes with a
// package.
func dir(p string) api.File { return api.File{Path: p, Kind: api.KDir, Meta: newMeta} }

func file(p, text string) api.File {
	return api.File{Path: p, Kind: api.KFile, Meta: newMeta, Text: text}
}

func toLink(p, text string) api.File {
	return api.File{Path: p, Kind: api.KLink, Meta: newMeta, Text: text}
}

// holding is a disk with some files, of which nothing is pending or dirty.
func holding(t *testing.T, l ...api.File) *disk.Disk {
	t.Helper()
	d := disk.New(api.Limits{})
	for _, f := range l {
		switch f.Kind {
		case api.KDir:
			must(t, mkdir(f.Path, oldMeta).do(d))
		case api.KLink:
			must(t, symlink(f.Path, f.Text, oldMeta).do(d))
		default:
			must(t, create(f.Path, oldMeta).do(d))
			must(t, write(f.Path, f.Text).do(d))
			must(t, d.Sync(f.Path))
		}
	}
	must(t, d.Sync("/"))
	return d
}

// look is all that a disk tells.
func look(d *disk.Disk) string {
	return fmt.Sprint(d.Image(), d.Kept(), d.Dirty(), d.Steps(), d.Pending(), d.On())
}

// without is disks on which nothing can be done, and the error that says so.
func without(t *testing.T, l ...api.File) map[*disk.Disk]api.Errno {
	off := holding(t, l...)
	off.Fuse(0)
	off.Sync("/")
	return map[*disk.Disk]api.Errno{nil: api.ENIL, {}: api.ENIL, off: api.EOFF}
}

func item(f api.File, at string, fresh bool) place.Item {
	return place.Item{File: f, At: at, Fresh: fresh}
}

// some is what is there in the tests of Make.
func some() []api.File {
	return []api.File{
		dir("/d"), file("/d/f", "text"), toLink("/d/l", "f"), dir("/d/sub"),
		file("/f", ""), toLink("/l", "/none"), toLink("/ld", "/d"),
	}
}

// made is place.Make, which is to leave all as it is.
func made(t *testing.T, d *disk.Disk, st api.State, x api.Package) ([]place.Item, api.Errno) {
	t.Helper()
	given, disk := fmt.Sprintf("%#v", []any{st, x}), look(d)
	l, e := place.Make(d, st, x)
	if fmt.Sprintf("%#v", []any{st, x}) != given || look(d) != disk {
		t.Errorf("Make changed %s", given)
	}
	return l, e
}

// files is a package of the name x.
func files(l ...api.File) api.Package { return api.Package{Name: "x", Version: "1", Files: l} }

// P21.1

func TestMake(t *testing.T) {
	other := file("/g", "")
	other.Kind, other.Conf = 7, true
	for _, c := range []struct {
		what string
		x    api.Package
		want []place.Item
	}{
		{"none", files(), nil},
		{"a file", files(file("/g", "new")), []place.Item{item(file("/g", "new"), "/g", true)}},
		{"a file that is there", files(file("/f", "new")), []place.Item{item(file("/f", "new"), "/f", false)}},
		{"a file for a link", files(file("/l", "new")), []place.Item{item(file("/l", "new"), "/l", false)}},
		{"a file for a link to a directory", files(file("/ld", "")), []place.Item{item(file("/ld", ""), "/ld", false)}},
		{"a link for a file", files(toLink("/f", "g")), []place.Item{item(toLink("/f", "g"), "/f", false)}},
		{"a link for a link", files(toLink("/d/l", "g")), []place.Item{item(toLink("/d/l", "g"), "/d/l", false)}},
		{"a directory", files(dir("/e")), []place.Item{item(dir("/e"), "/e", true)}},
		{"a directory that is there", files(dir("/d")), []place.Item{item(dir("/d"), "/d", false)}},
		{"the root", files(dir("/")), []place.Item{item(dir("/"), "/", false)}},
		{"in a directory that is there", files(file("/d/sub/f", "")), []place.Item{item(file("/d/sub/f", ""), "/d/sub/f", true)}},
		{"another kind", files(other), []place.Item{item(other, "/g", true)}},
		{"of a directory that comes", files(dir("/e"), dir("/e/e"), file("/e/e/f", ""), toLink("/e/l", "")), []place.Item{
			item(dir("/e"), "/e", true), item(dir("/e/e"), "/e/e", true), item(file("/e/e/f", ""), "/e/e/f", true), item(toLink("/e/l", ""), "/e/l", true),
		}},
		{"of a directory that comes later", files(file("/e/f", ""), dir("/e")), []place.Item{item(file("/e/f", ""), "/e/f", true), item(dir("/e"), "/e", true)}},
		{"of some that are there", files(dir("/d"), file("/d/f", ""), dir("/d/sub"), dir("/d/sub/e"), file("/d/sub/e/f", "")), []place.Item{
			item(dir("/d"), "/d", false), item(file("/d/f", ""), "/d/f", false), item(dir("/d/sub"), "/d/sub", false), item(dir("/d/sub/e"), "/d/sub/e", true), item(file("/d/sub/e/f", ""), "/d/sub/e/f", true),
		}},
		{"in any order", files(file("/z", ""), file("/a", "")), []place.Item{item(file("/z", ""), "/z", true), item(file("/a", ""), "/a", true)}},
		// Another file that can't be where it is said to be may be fresh.
		{"no right path", files(dir(""), file("a", ""), dir("b")), []place.Item{item(dir(""), "", true), item(file("a", ""), "a", true), item(dir("b"), "b", true)}},
		{"too long a name", files(file("/"+strings.Repeat("a", 200), "")), []place.Item{item(file("/"+strings.Repeat("a", 200), ""), "/"+strings.Repeat("a", 200), true)}},
	} {
		l, e := made(t, holding(t, some()...), api.State{}, c.x)
		if !slices.Equal(l, c.want) || e != api.OK {
			t.Errorf("%s: %v %d, want %v", c.what, l, e, c.want)
		}
	}
}

// Only files that are no directories are diverted, and only for others; metas
// are those of the paths of the package.
func TestMakeDiverted(t *testing.T) {
	diverts := []api.Divert{{Path: "/d", To: "/to.d"}, {Path: "/f", To: "/f.all"}, {Path: "/g", To: "/g.x", By: "x"}, {Path: "/h", To: "/f", By: "y"}, {Path: "/h", To: "/second"}, {Path: "/l", To: "/d/l", By: "y"}, {Path: "/to", To: "/d/none"}}
	over := []api.Over{{Path: "/d", Meta: own}, {Path: "/f", Meta: own}, {Path: "/f", Meta: oldMeta}, {Path: "/f.all", Meta: oldMeta}, {Path: "/h", Meta: own}}
	st := api.State{Diverts: diverts, Overs: over, Lists: []api.List{{Name: "x", Paths: []string{"/f"}}}}
	for _, c := range []struct {
		f     api.File
		meta  api.Meta
		at    string
		fresh bool
	}{
		{dir("/d"), own, "/d", false},
		{file("/f", "new"), own, "/f.all", true},
		{toLink("/f", "new"), own, "/f.all", true},
		{file("/f.all", "new"), oldMeta, "/f.all", true},
		{file("/g", "new"), newMeta, "/g", true},
		{file("/h", "new"), own, "/f", false},
		{toLink("/l", "new"), newMeta, "/d/l", false},
		{file("/l", "new"), newMeta, "/d/l", false},
		{file("/to", "new"), newMeta, "/d/none", true},
		{dir("/to"), newMeta, "/to", true},
	} {
		want := c.f
		want.Meta = c.meta
		l, e := made(t, holding(t, some()...), st, files(c.f))
		if !slices.Equal(l, []place.Item{item(want, c.at, c.fresh)}) || e != api.OK {
			t.Errorf("%v: %v %d", c.f, l, e)
		}
	}
	// By is the package's name, and nobody's package has an empty one.
	for name, at := range map[string]string{"x": "/g", "y": "/g.x", "": "/g.x"} {
		x := files(file("/g", ""))
		x.Name = name
		if l, e := made(t, holding(t), st, x); e != api.OK || l[0].At != at {
			t.Errorf("of %q: %v %d", name, l, e)
		}
	}
	x := files(file("/f", ""))
	x.Name = ""
	if l, e := made(t, holding(t), st, x); e != api.OK || l[0].At != "/f.all" {
		t.Errorf("of no name: %v %d", l, e)
	}
}

func TestMakeErrors(t *testing.T) {
	diverts := func(l ...api.Divert) api.State { return api.State{Diverts: l} }
	for _, c := range []struct {
		what string
		st   api.State
		x    api.Package
		want api.Errno
	}{
		// Of one place
		{"twice", api.State{}, files(file("/g", ""), file("/g", "")), api.EDIVERT},
		{"twice, a directory", api.State{}, files(dir("/d"), dir("/d")), api.EDIVERT},
		{"twice, another kind", api.State{}, files(dir("/e"), file("/e", "")), api.EDIVERT},
		{"twice, of which the second can't be", api.State{}, files(dir("/d"), file("/d", "")), api.EDIVERT},
		{"behind others", api.State{}, files(file("/g", ""), file("/h", ""), dir("/i"), file("/h", "")), api.EDIVERT},
		{"diverted to another one's", diverts(api.Divert{Path: "/g", To: "/f"}), files(file("/f", ""), file("/g", "")), api.EDIVERT},
		{"diverted to one place", diverts(api.Divert{Path: "/g", To: "/i"}, api.Divert{Path: "/h", To: "/i"}), files(file("/g", ""), toLink("/h", "")), api.EDIVERT},
		{"diverted to a directory that comes", diverts(api.Divert{Path: "/g", To: "/e"}), files(dir("/e"), file("/g", "")), api.EDIVERT},
		{"diverted away from each other", diverts(api.Divert{Path: "/g", To: "/h"}, api.Divert{Path: "/h", To: "/g"}), files(file("/g", ""), file("/h", "")), api.OK},
		{"diverted away", diverts(api.Divert{Path: "/e", To: "/g"}), files(dir("/e"), file("/e", "")), api.OK},
		// Directories, and what is none
		{"a directory for a file", api.State{}, files(dir("/f")), api.ENOTDIR},
		{"a directory for a link", api.State{}, files(dir("/l")), api.ENOTDIR},
		{"a directory for a link to one", api.State{}, files(dir("/ld")), api.ENOTDIR},
		{"a directory for a file, diverted", diverts(api.Divert{Path: "/f", To: "/g"}), files(dir("/f")), api.ENOTDIR},
		{"a file for a directory", api.State{}, files(file("/d", "")), api.EISDIR},
		{"a file for the root", api.State{}, files(file("/", "")), api.EISDIR},
		{"a link for a directory", api.State{}, files(toLink("/d/sub", "x")), api.EISDIR},
		{"another kind for a directory", api.State{}, files(api.File{Path: "/d"}), api.EISDIR},
		{"a file for a directory, diverted", diverts(api.Divert{Path: "/g", To: "/d"}), files(file("/g", "")), api.EISDIR},
		{"a file for a directory, diverted away", diverts(api.Divert{Path: "/d", To: "/g"}), files(file("/d", "")), api.OK},
		// The directory it is to be in
		{"below a file", api.State{}, files(file("/f/g", "")), api.ENOTDIR},
		{"below a link", api.State{}, files(file("/l/g", "")), api.ENOTDIR},
		{"below a link to a directory", api.State{}, files(file("/ld/f", "")), api.ENOTDIR},
		{"a directory below a file", api.State{}, files(dir("/f/g")), api.ENOTDIR},
		{"below a file, diverted", diverts(api.Divert{Path: "/g", To: "/f/g"}), files(file("/g", "")), api.ENOTDIR},
		{"far below a file", api.State{}, files(file("/f/g/h", "")), api.ENOENT},
		{"far below a file that comes as a directory", api.State{}, files(dir("/f/g"), file("/f/g/h", "")), api.ENOTDIR},
		{"far below a file, behind", api.State{}, files(file("/f/g/h", ""), dir("/f/g")), api.ENOTDIR},
		{"below none", api.State{}, files(file("/e/g", "")), api.ENOENT},
		{"a directory below none", api.State{}, files(dir("/e/g")), api.ENOENT},
		{"a link below none", api.State{}, files(toLink("/d/e/g", "")), api.ENOENT},
		{"below none, diverted", diverts(api.Divert{Path: "/g", To: "/e/g"}), files(file("/g", "")), api.ENOENT},
		{"below none, diverted, that comes", diverts(api.Divert{Path: "/g", To: "/e/g"}), files(dir("/e"), file("/g", "")), api.OK},
		{"below one that does not come itself", api.State{}, files(dir("/d"), dir("/d/e/e"), file("/d/e/g", "")), api.ENOENT},
		{"below a file that comes", api.State{}, files(file("/g", ""), file("/g/g", "")), api.ENOENT},
		{"below a link that comes", api.State{}, files(toLink("/g", "/d"), file("/g/g", "")), api.ENOENT},
		{"below a file that comes, and is diverted", diverts(api.Divert{Path: "/g", To: "/h"}), files(file("/g", ""), file("/g/g", "")), api.ENOENT},
		{"below what first comes as a file", diverts(api.Divert{Path: "/g", To: "/h"}), files(file("/g", ""), file("/g/g", ""), dir("/g")), api.ENOENT},
		{"below what first comes as a directory", diverts(api.Divert{Path: "/g", To: "/h"}), files(dir("/g"), file("/g", ""), file("/g/g", "")), api.OK},
		{"no right path", api.State{}, files(file("a", "")), api.ENOENT},
		{"no right path in a directory", api.State{}, files(file("/d/", "")), api.OK},
		// The first item's
		{"of two, the first one", api.State{}, files(dir("/f"), file("/d", "")), api.ENOTDIR},
		{"of two, the first one again", api.State{}, files(file("/d", ""), dir("/f")), api.EISDIR},
		{"of three", api.State{}, files(file("/g", ""), file("/e/g", ""), file("/g", "")), api.ENOENT},
		{"of three, in order", api.State{}, files(file("/g", ""), file("/g", ""), file("/e/g", "")), api.EDIVERT},
	} {
		l, e := made(t, holding(t, some()...), c.st, c.x)
		if e != c.want || (e == api.OK) != (len(l) == len(c.x.Files)) || e != api.OK && len(l) > 0 {
			t.Errorf("%s: %v %d, want %d", c.what, l, e, c.want)
		}
	}
}

// That nothing can be seen goes ahead of all else.
func TestMakeWithoutPower(t *testing.T) {
	for d, want := range without(t, some()...) {
		for _, x := range []api.Package{files(), files(file("/g", "")), files(file("/d", "")), files(file("/g", ""), file("/g", "")), {}} {
			if l, e := made(t, d, api.State{}, x); len(l) > 0 || e != want {
				t.Errorf("%v: %v %d, want %d", x, l, e, want)
			}
		}
	}
}

// What is answered has room of its own.
func TestMakeAnew(t *testing.T) {
	d, x := holding(t), files(file("/a", "1"), file("/b", "2"))
	l, e := made(t, d, api.State{}, x)
	must(t, e)
	l[0].File.Text, l[1].At = "other", "/other"
	if again, _ := made(t, d, api.State{}, x); again[0].File.Text != "1" || again[1].At != "/b" || x.Files[0].Text != "1" {
		t.Errorf("%v of %v", again, x)
	}
}

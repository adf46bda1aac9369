package disk

import (
	"math"
	"slices"
	"strings"
	"testing"

	"cellarer/api"
)

var (
	dirMeta  = api.Meta{Mode: 0o755}
	fileMeta = api.Meta{Mode: 0o640, Uid: 1, Gid: 2}
	badMeta  = api.Meta{Mode: 0o10000}
)

func mkdir(p string) api.Op       { return api.Op{Kind: api.OMkdir, Path: p, Meta: dirMeta} }
func create(p string) api.Op      { return api.Op{Kind: api.OCreate, Path: p, Meta: fileMeta} }
func write(p, text string) api.Op { return api.Op{Kind: api.OWrite, Path: p, Text: text} }
func symlink(p, text string) api.Op {
	return api.Op{Kind: api.OSymlink, Path: p, Text: text, Meta: fileMeta}
}
func link(p, to string) api.Op   { return api.Op{Kind: api.OLink, Path: p, To: to} }
func rename(p, to string) api.Op { return api.Op{Kind: api.ORename, Path: p, To: to} }
func unlink(p string) api.Op     { return api.Op{Kind: api.OUnlink, Path: p} }
func rmdir(p string) api.Op      { return api.Op{Kind: api.ORmdir, Path: p} }

// must does operations that have no error.
func must(t *testing.T, d *Disk, l ...api.Op) {
	t.Helper()
	for _, x := range l {
		if e := d.Do(x); e != api.OK {
			t.Fatalf("%v: %d", x, e)
		}
	}
}

func sync(t *testing.T, d *Disk, p string) {
	t.Helper()
	if e := d.Sync(p); e != api.OK {
		t.Fatalf("Sync of %s: %d", p, e)
	}
}

// made is a disk without limits on which operations were done.
func made(t *testing.T, l ...api.Op) *Disk {
	t.Helper()
	d := New(api.Limits{})
	must(t, d, l...)
	return d
}

// seen is all that a disk tells.
type seen struct {
	image, kept    []api.Entry
	dirty          []string
	steps, pending int
	on             bool
}

func look(d *Disk) seen {
	return seen{d.Image(), d.Kept(), d.Dirty(), d.Steps(), d.Pending(), d.On()}
}

func (s seen) same(o seen) bool {
	return slices.Equal(s.image, o.image) && slices.Equal(s.kept, o.kept) && slices.Equal(s.dirty, o.dirty) &&
		s.steps == o.steps && s.pending == o.pending && s.on == o.on
}

// refuse holds an operation to an error that changes nothing.
func refuse(t *testing.T, d *Disk, x api.Op, want api.Errno) {
	t.Helper()
	before := look(d)
	if e := d.Check(x); e != want {
		t.Errorf("Check of %v: %d, want %d", x, e, want)
	}
	if e := d.Do(x); e != want {
		t.Errorf("Do of %v: %d, want %d", x, e, want)
	}
	if !look(d).same(before) {
		t.Errorf("%v changed the disk", x)
	}
}

// text holds a file to its text.
func text(t *testing.T, d *Disk, p, want string) {
	t.Helper()
	if s, e := d.Read(p); s != want || e != api.OK {
		t.Errorf("%s: %q %d, want %q", p, s, e, want)
	}
}

func missing(t *testing.T, d *Disk, p string) {
	t.Helper()
	if x, e := d.Stat(p); e != api.ENOENT {
		t.Errorf("%s is there: %v %d", p, x, e)
	}
}

// P4.1

func TestNew(t *testing.T) {
	root := []api.Entry{{Path: "/", Kind: api.KDir, Meta: dirMeta, Node: 1}}
	d := New(api.Limits{Bytes: 1, Files: 1, Name: 1})
	if want := (seen{image: root, kept: root, on: true}); !look(d).same(want) {
		t.Errorf("%v", look(d))
	}
	d = New(api.Limits{})
	for range 100 { // there is no fuse
		sync(t, d, "/")
	}
	if New(api.Limits{}) == d {
		t.Error("twice the same disk")
	}
}

func TestDo(t *testing.T) {
	d := made(t, mkdir("/d"), create("/d/f"), write("/d/f", "text"))
	if d.Steps() != 3 || d.Pending() != 3 || len(d.Image()) != 3 || len(d.Kept()) != 1 || !slices.Equal(d.Dirty(), []string{"/d/f"}) {
		t.Errorf("%v", look(d))
	}
	text(t, d, "/d/f", "text")
	// An operation that leaves the tree as it is was performed too.
	must(t, d, rename("/d", "/d"))
	if d.Steps() != 4 || d.Pending() != 4 {
		t.Errorf("%v", look(d))
	}
}

// The errors of the tree come first, whatever limits would say.
func TestDoRefused(t *testing.T) {
	d := made(t, mkdir("/d"), create("/f"), symlink("/l", "x"))
	d.Bound(api.Limits{Bytes: 1, Files: 1, Name: 1})
	for _, c := range []struct {
		op api.Op
		e  api.Errno
	}{
		{api.Op{Kind: 0, Path: "/xx"}, api.EARG},
		{api.Op{Kind: 11, Path: "/xx"}, api.EARG},
		{mkdir("xx"), api.EARG},
		{mkdir("/no/xx"), api.ENOENT},
		{create("/f/xx"), api.ENOTDIR},
		{create("/d"), api.EEXIST},
		{api.Op{Kind: api.OCreate, Path: "/xx", Meta: badMeta}, api.EARG},
		{symlink("/xx", ""), api.EARG},
		{symlink("/xx", strings.Repeat("x", 201)), api.ELONG},
		{write("/d", "xx"), api.EISDIR},
		{write("/l", "xx"), api.EARG},
		{write("/f", strings.Repeat("x", api.MaxText+1)), api.ELONG},
		{link("/d", "/xx"), api.EISDIR},
		{link("/f", "/d"), api.EEXIST},
		{unlink("/d"), api.EISDIR},
		{rmdir("/f"), api.ENOTDIR},
		{rename("/d", "/d/xx"), api.EARG},
		{rename("/no", "/xx"), api.ENOENT},
	} {
		refuse(t, d, c.op, c.e)
	}
}

func TestLimitOfFiles(t *testing.T) {
	news := []api.Op{mkdir("/x"), create("/x"), symlink("/x", "y")}
	for _, x := range news {
		d := New(api.Limits{Files: 3})
		must(t, d, mkdir("/d"), x)
		x.Path = "/d/x"
		refuse(t, d, x, api.ENFILE)
		// Whatever makes no file may be done.
		must(t, d, rename("/x", "/y"), api.Op{Kind: api.OChmod, Path: "/d"})
	}
	for _, x := range news {
		refuse(t, New(api.Limits{Files: 1}), x, api.ENFILE)
		must(t, New(api.Limits{Files: 2}), x)
		for _, n := range []int{0, -1, math.MinInt} {
			must(t, New(api.Limits{Files: n}), x)
		}
	}
	d := New(api.Limits{Files: 2})
	must(t, d, create("/f"), link("/f", "/g"), link("/f", "/h"))
	refuse(t, d, create("/x"), api.ENFILE)
	must(t, d, unlink("/f"), unlink("/g"))
	refuse(t, d, create("/x"), api.ENFILE)
	// A file that went leaves room, pending or not.
	must(t, d, unlink("/h"), create("/x"))
}

func TestLimitOfBytes(t *testing.T) {
	d := New(api.Limits{Bytes: 10})
	must(t, d, create("/f"), write("/f", strings.Repeat("x", 10)))
	refuse(t, d, write("/f", strings.Repeat("x", 11)), api.ENOSPC)
	refuse(t, d, symlink("/l", "y"), api.ENOSPC)
	// What the file had is free for its next text.
	must(t, d, write("/f", strings.Repeat("y", 10)), write("/f", "abc"), symlink("/l", "1234567"))
	refuse(t, d, write("/f", "abcd"), api.ENOSPC)
	refuse(t, d, symlink("/m", "1"), api.ENOSPC)
	must(t, d, link("/f", "/g"), link("/l", "/m"), create("/h"), mkdir("/d"), write("/h", ""), write("/g", "ab"), write("/h", "c"))
	refuse(t, d, write("/h", "cd"), api.ENOSPC)
	must(t, d, unlink("/l"))
	refuse(t, d, write("/h", "cd"), api.ENOSPC)
	must(t, d, unlink("/m"), write("/h", strings.Repeat("x", 8)))
	// Whoever is above a limit that was set later is above it with less, too.
	d.Bound(api.Limits{Bytes: 4})
	refuse(t, d, write("/h", "123"), api.ENOSPC)
	must(t, d, write("/h", "12"), create("/i"))
	for _, n := range []int{0, -1, math.MinInt} {
		d := New(api.Limits{Bytes: n})
		must(t, d, create("/f"), write("/f", strings.Repeat("x", api.MaxText)), symlink("/l", strings.Repeat("x", 200)))
	}
}

func TestLimitOfNames(t *testing.T) {
	l := []func(p string) api.Op{
		mkdir, create,
		func(p string) api.Op { return symlink(p, "x") },
		func(p string) api.Op { return link("/f", p) },
		func(p string) api.Op { return rename("/f", p) },
	}
	for _, op := range l {
		d := made(t, create("/f"), mkdir("/dir"), mkdir("/dir/dir"))
		d.Bound(api.Limits{Name: 2})
		refuse(t, d, op("/abc"), api.ELONG)
		refuse(t, d, op("/dir/abc"), api.ELONG)
		must(t, d, op("/dir/dir/ab"))
		for _, n := range []int{0, -1, math.MinInt} {
			d := made(t, create("/f"))
			d.Bound(api.Limits{Name: n})
			must(t, d, op("/"+strings.Repeat("x", 199)))
		}
	}
	// Names that are there are of no matter, unless they are made again.
	d := made(t, create("/file"), mkdir("/dir"), symlink("/link", "x"))
	d.Bound(api.Limits{Name: 3})
	refuse(t, d, rename("/file", "/file"), api.ELONG)
	refuse(t, d, rename("/link", "/file"), api.ELONG)
	must(t, d, write("/file", "x"), api.Op{Kind: api.OChmod, Path: "/file"}, api.Op{Kind: api.OChown, Path: "/link"}, rename("/file", "/f"), unlink("/link"))
}

// Of several limits the first counts.
func TestLimitsInOrder(t *testing.T) {
	d := New(api.Limits{Bytes: 1, Files: 1, Name: 1})
	refuse(t, d, symlink("/xx", "yy"), api.ENFILE)
	d.Bound(api.Limits{Bytes: 1, Files: 2, Name: 1})
	refuse(t, d, symlink("/xx", "yy"), api.ENOSPC)
	d.Bound(api.Limits{Bytes: 2, Files: 2, Name: 1})
	refuse(t, d, symlink("/xx", "yy"), api.ELONG)
	d.Bound(api.Limits{Bytes: 2, Files: 2, Name: 2})
	must(t, d, symlink("/xx", "yy"))
}

// P4.2

func TestSync(t *testing.T) {
	d := made(t, mkdir("/d"), create("/d/f"), write("/d/f", "f"), create("/g"), write("/g", "g"), create("/h"), write("/h", "h"))
	sync(t, d, "/d/f")
	if d.Pending() != 0 || d.Steps() != 8 || !slices.Equal(d.Kept(), d.Image()) || !slices.Equal(d.Dirty(), []string{"/g", "/h"}) {
		t.Errorf("%v", look(d))
	}
	// A directory's makes all durable, and no file clean.
	must(t, d, create("/i"))
	sync(t, d, "/d")
	sync(t, d, "/")
	if d.Pending() != 0 || d.Steps() != 11 || !slices.Equal(d.Kept(), d.Image()) || !slices.Equal(d.Dirty(), []string{"/g", "/h"}) {
		t.Errorf("%v", look(d))
	}
	must(t, d, link("/g", "/a"))
	if !slices.Equal(d.Dirty(), []string{"/a", "/h"}) {
		t.Error(d.Dirty())
	}
	sync(t, d, "/a") // by whichever name
	sync(t, d, "/i")
	if !slices.Equal(d.Dirty(), []string{"/h"}) {
		t.Error(d.Dirty())
	}
	must(t, d, write("/g", "g"))
	if !slices.Equal(d.Dirty(), []string{"/a", "/h"}) {
		t.Error("with the same text it is written too", d.Dirty())
	}
}

func TestSyncRefused(t *testing.T) {
	d := made(t, create("/f"), write("/f", "x"), symlink("/l", "/f"))
	before := look(d)
	for p, want := range map[string]api.Errno{"": api.EARG, "f": api.EARG, "/f/": api.EARG, "/no": api.ENOENT, "/no/x": api.ENOENT, "/f/x": api.ENOTDIR, "/l/x": api.ENOTDIR, "/l": api.EARG} {
		if e := d.Sync(p); e != want {
			t.Errorf("Sync of %q: %d, want %d", p, e, want)
		}
	}
	if !look(d).same(before) {
		t.Errorf("%v", look(d))
	}
	// These errors come ahead of the step that takes power away.
	d.Fuse(0)
	if e := d.Sync("/l"); e != api.EARG || !d.On() {
		t.Error(e, d.On())
	}
}

func TestFuse(t *testing.T) {
	for n := range 5 {
		d := made(t, create("/f"))
		d.Fuse(n)
		l := []func() api.Errno{
			func() api.Errno { return d.Do(write("/f", "one")) },
			func() api.Errno { return d.Sync("/f") },
			func() api.Errno { return d.Do(create("/g")) },
			func() api.Errno { return d.Sync("/") },
			func() api.Errno { return d.Do(unlink("/f")) },
		}
		for i, f := range l[:n] {
			// What has an error is no step.
			if e := d.Do(create("/f")); e != api.EEXIST {
				t.Error(e)
			}
			if e := f(); e != api.OK {
				t.Errorf("fuse %d, step %d: %d", n, i, e)
			}
		}
		want := look(d)
		want.on = false
		if want.steps != 1+n {
			t.Errorf("%d steps", want.steps)
		}
		if e := d.Check(write("/f", "two")); e != api.OK || !d.On() {
			t.Errorf("Check looked at the fuse: %d", e)
		}
		if e := l[n](); e != api.EOFF || !look(d).same(want) {
			t.Errorf("fuse %d: %d, %v, want %v", n, e, look(d), want)
		}
	}
}

// Errors come ahead of the step: power stays.
func TestFuseAndErrors(t *testing.T) {
	d := New(api.Limits{Files: 1})
	d.Fuse(0)
	refuse(t, d, create("/no/x"), api.ENOENT)
	refuse(t, d, create("/x"), api.ENFILE)
	if e := d.Sync("/no"); e != api.ENOENT || !d.On() {
		t.Error(e)
	}
	if e := d.Do(api.Op{Kind: api.OChmod, Path: "/"}); e != api.EOFF || d.On() {
		t.Error(e)
	}
}

func TestFuseSetAgain(t *testing.T) {
	d := New(api.Limits{})
	for _, n := range []int{-1, -5, math.MinInt} {
		d.Fuse(0)
		d.Fuse(n)
		for range 5 {
			sync(t, d, "/")
		}
	}
	d.Fuse(1)
	sync(t, d, "/")
	d.Fuse(2)
	sync(t, d, "/")
	sync(t, d, "/")
	if e := d.Sync("/"); e != api.EOFF {
		t.Error(e)
	}
	// Power that is off stays off.
	for _, n := range []int{5, -1, 0} {
		d.Fuse(n)
		if e := d.Sync("/"); e != api.EOFF || d.On() {
			t.Error(e)
		}
	}
	// With Crash there is no fuse any more, whatever was set.
	d.Fuse(0)
	d.Crash(0, nil)
	sync(t, d, "/")
	d.Fuse(1)
	d.Crash(0, nil)
	for range 5 {
		sync(t, d, "/")
	}
}

func TestWithoutPower(t *testing.T) {
	d := made(t, create("/f"), write("/f", "x"), symlink("/l", "x"))
	d.Fuse(0)
	if e := d.Sync("/"); e != api.EOFF {
		t.Fatal(e)
	}
	before := look(d)
	if before.on || before.steps != 3 || before.pending != 3 || len(before.image) != 3 || len(before.kept) != 1 || !slices.Equal(before.dirty, []string{"/f"}) {
		t.Errorf("%v", before)
	}
	for _, x := range []api.Op{write("/f", "y"), create("/no/x"), {}, create("bad")} {
		refuse(t, d, x, api.EOFF)
	}
	for _, p := range []string{"/", "/f", "/l", "/no", ""} {
		if e := d.Sync(p); e != api.EOFF {
			t.Error(e)
		}
		if x, e := d.Stat(p); x != (api.Entry{}) || e != api.EOFF {
			t.Error(x, e)
		}
		if l, e := d.List(p); len(l) != 0 || e != api.EOFF {
			t.Error(l, e)
		}
		if s, e := d.Read(p); s != "" || e != api.EOFF {
			t.Error(s, e)
		}
	}
	d.Bound(api.Limits{Files: 3})
	if !look(d).same(before) {
		t.Errorf("%v", look(d))
	}
	d.Crash(3, []int{1})
	refuse(t, d, create("/g"), api.ENFILE) // the limits that were set without power hold
	text(t, d, "/f", "x")
}

// P4.3

func TestExample(t *testing.T) {
	d := made(t, create("/a"), write("/a", "abc"))
	d.Crash(2, []int{2})
	text(t, d, "/a", "ab")
	d = made(t, create("/a"), write("/a", "abc"))
	d.Crash(0, []int{2})
	missing(t, d, "/a")
}

// mod is x, as an unsigned number, modulo n.
func mod(x int, n uint64) int { return int(uint64(x) % n) }

func TestCrashKeeps(t *testing.T) {
	for _, keep := range []int{0, 1, 2, 3, 4, 5, 6, 7, 1000, -1, -2, -3, -4, math.MaxInt, math.MinInt} {
		d := made(t, create("/0"))
		sync(t, d, "/")
		must(t, d, create("/1"), unlink("/0"), mkdir("/2"), rename("/1", "/2/3"))
		d.Fuse(0)
		d.Sync("/")
		steps := d.Steps()
		d.Crash(keep, nil)
		want := [][]string{{"/", "/0"}, {"/", "/0", "/1"}, {"/", "/1"}, {"/", "/1", "/2"}, {"/", "/2", "/2/3"}}[mod(keep, 5)]
		var got []string
		for _, x := range d.Image() {
			got = append(got, x.Path)
		}
		if !slices.Equal(got, want) || !slices.Equal(d.Kept(), d.Image()) {
			t.Errorf("keep %d: %v", keep, got)
		}
		if !d.On() || d.Steps() != steps || d.Pending() != 0 || len(d.Dirty()) != 0 {
			t.Errorf("keep %d: %v", keep, look(d))
		}
		must(t, d, create("/new"))
	}
}

func TestCrashCuts(t *testing.T) {
	for _, n := range []int{0, 1, 2, 3, 4, 5, 6, 7, 1000, -1, -2, -3, -4, -5, math.MaxInt, math.MinInt} {
		d := made(t, create("/a"), write("/a", "abcd"))
		d.Crash(2, []int{n})
		text(t, d, "/a", "abcd"[:mod(n, 5)])
		if b := d.Kept(); b[1].Text != "abcd"[:mod(n, 5)] {
			t.Error(b)
		}
	}
}

// The first element belongs to the first file, whether it has bytes or not, and
// with whichever name it comes first; without an element nothing is left.
func TestCrashCutsInOrder(t *testing.T) {
	ops := []api.Op{
		create("/c"), write("/c", "ccc"), create("/b"), write("/b", ""), mkdir("/d"), create("/d/x"), write("/d/x", "xxx"),
		create("/d-x"), write("/d-x", "---"), create("/e"), write("/e", "eee"), link("/e", "/a"), create("/clean"),
	}
	for _, c := range []struct {
		cuts              []int
		a, cc, dash, last string
	}{
		{[]int{1, 7, 2, 3, 1}, "e", "cc", "---", "x"},
		{[]int{3, 3, 3, 3, 3}, "eee", "ccc", "---", "xxx"},
		{[]int{3, 3, 3, 3, 3, 1, 1, 1}, "eee", "ccc", "---", "xxx"},
		{[]int{2, 0, 1}, "ee", "c", "", ""},
		{[]int{2}, "ee", "", "", ""},
		{nil, "", "", "", ""},
		{[]int{}, "", "", "", ""},
		{[]int{-1, 0, -2, -3, -4}, "eee", "cc", "-", ""},
	} {
		d := made(t, ops...)
		sync(t, d, "/")
		cuts := slices.Clone(c.cuts)
		d.Crash(0, cuts)
		if !slices.Equal(cuts, c.cuts) {
			t.Error("changed", cuts)
		}
		for p, want := range map[string]string{"/a": c.a, "/e": c.a, "/b": "", "/c": c.cc, "/d-x": c.dash, "/d/x": c.last} {
			text(t, d, p, want)
		}
	}
}

// Which files are dirty there, with what is durable.
func TestCrashDirty(t *testing.T) {
	synced := []api.Op{create("/a"), write("/a", "aaa"), create("/b"), write("/b", "bbb")}
	for _, c := range []struct {
		what string
		then []api.Op // after Sync of /a
		keep int
		cuts []int
		want map[string]string
	}{
		{"clean, and dirty", nil, 0, []int{1}, map[string]string{"/a": "aaa", "/b": "b"}},
		{"a write that is not durable", []api.Op{write("/a", "new")}, 0, []int{1}, map[string]string{"/a": "aaa", "/b": "b"}},
		{"one that is", []api.Op{write("/a", "new")}, 1, []int{1, 2}, map[string]string{"/a": "n", "/b": "bb"}},
		{"the first of two", []api.Op{write("/a", "one"), write("/a", "second")}, 1, []int{2, 3}, map[string]string{"/a": "on", "/b": "bbb"}},
		{"dirty with another text", []api.Op{write("/b", "other")}, 0, []int{2}, map[string]string{"/b": "bb"}},
		{"dirty, then written", []api.Op{write("/b", "other")}, 1, []int{4}, map[string]string{"/a": "aaa", "/b": "othe"}},
		{"renamed, and kept", []api.Op{rename("/b", "/0")}, 1, []int{1}, map[string]string{"/a": "aaa", "/0": "b"}},
		{"renamed, and not kept", []api.Op{rename("/b", "/0")}, 0, []int{1}, map[string]string{"/a": "aaa", "/b": "b"}},
		{"clean over dirty", []api.Op{rename("/a", "/b")}, 1, []int{1}, map[string]string{"/b": "aaa"}},
		{"dirty over clean", []api.Op{rename("/b", "/a")}, 1, []int{1}, map[string]string{"/a": "b"}},
		{"clean over dirty, not kept", []api.Op{rename("/a", "/b")}, 0, []int{1}, map[string]string{"/a": "aaa", "/b": "b"}},
		{"unlinked, not kept", []api.Op{unlink("/b")}, 0, []int{2}, map[string]string{"/b": "bb"}},
		{"unlinked and made again", []api.Op{unlink("/b"), create("/b")}, 2, []int{2}, map[string]string{"/a": "aaa", "/b": ""}},
		{"with a name ahead of it", []api.Op{link("/b", "/0"), write("/a", "new")}, 2, []int{1, 2}, map[string]string{"/0": "b", "/a": "ne", "/b": "b"}},
		{"whose first name goes", []api.Op{link("/b", "/c"), unlink("/b")}, 2, []int{2}, map[string]string{"/a": "aaa", "/c": "bb"}},
		{"under a directory", []api.Op{mkdir("/d"), rename("/b", "/d/b"), rename("/d", "/0")}, 3, []int{2}, map[string]string{"/a": "aaa", "/0/b": "bb"}},
	} {
		d := made(t, synced...)
		sync(t, d, "/a")
		must(t, d, c.then...)
		d.Crash(c.keep, c.cuts)
		for p, want := range c.want {
			if s, e := d.Read(p); s != want || e != api.OK {
				t.Errorf("%s: %s: %q %d, want %q", c.what, p, s, e, want)
			}
		}
		if len(d.Dirty()) != 0 {
			t.Errorf("%s: %v", c.what, d.Dirty())
		}
	}
}

// What a crash left is durable and clean: another one changes nothing.
func TestCrashTwice(t *testing.T) {
	d := made(t, create("/a"), write("/a", "abc"))
	d.Crash(2, []int{2})
	before := look(d)
	d.Crash(5, []int{0})
	if !look(d).same(before) {
		t.Errorf("%v, want %v", look(d), before)
	}
	must(t, d, write("/a", "other"))
	if !slices.Equal(d.Dirty(), []string{"/a"}) {
		t.Error(d.Dirty())
	}
	d.Crash(0, nil)
	text(t, d, "/a", "ab")
	// The trees share nothing.
	must(t, d, unlink("/a"))
	if len(d.Kept()) != 2 || len(d.Image()) != 1 {
		t.Error(d.Kept(), d.Image())
	}
}

// P4.4

func TestReading(t *testing.T) {
	d := made(t, mkdir("/d"), create("/d/f"), write("/d/f", "text"), symlink("/d/l", "x"))
	if x, e := d.Stat("/d/f"); x != (api.Entry{Path: "/d/f", Kind: api.KFile, Meta: fileMeta, Text: "text", Node: 3}) || e != api.OK {
		t.Error(x, e)
	}
	if l, e := d.List("/d"); !slices.Equal(l, []string{"f", "l"}) || e != api.OK {
		t.Error(l, e)
	}
	text(t, d, "/d/f", "text")
	for p, want := range map[string]api.Errno{"": api.EARG, "/no": api.ENOENT, "/d/f/x": api.ENOTDIR} {
		if x, e := d.Stat(p); x != (api.Entry{}) || e != want {
			t.Error(x, e)
		}
	}
	if l, e := d.List("/d/f"); len(l) != 0 || e != api.ENOTDIR {
		t.Error(l, e)
	}
	if s, e := d.Read("/d"); s != "" || e != api.EISDIR {
		t.Error(s, e)
	}
	if s, e := d.Read("/d/l"); s != "" || e != api.EARG {
		t.Error(s, e)
	}
	if len(d.Image()) != 4 || len(d.Kept()) != 1 {
		t.Error(d.Image(), d.Kept())
	}
}

func TestDirty(t *testing.T) {
	d := made(t, create("/b"), create("/c"), mkdir("/a"), create("/a/x"), create("/a-x"), write("/c", "c"), write("/a/x", "x"), write("/a-x", ""), link("/c", "/a/0"))
	for _, c := range []struct {
		op   api.Op
		want []string
	}{
		{api.Op{Kind: api.OChmod, Path: "/b"}, []string{"/a-x", "/a/0", "/a/x"}},
		{unlink("/a/0"), []string{"/a-x", "/a/x", "/c"}},
		{rename("/a", "/d"), []string{"/a-x", "/c", "/d/x"}},
		{rename("/b", "/c"), []string{"/a-x", "/d/x"}},
		{rename("/a-x", "/e"), []string{"/d/x", "/e"}},
		{unlink("/d/x"), []string{"/e"}},
		{rename("/e", "/c"), []string{"/c"}},
		{create("/d/x"), []string{"/c"}},
		{rename("/c", "/c"), []string{"/c"}},
		{unlink("/c"), nil},
	} {
		must(t, d, c.op)
		if l := d.Dirty(); !slices.Equal(l, c.want) {
			t.Errorf("%v: %v, want %v", c.op, l, c.want)
		}
	}
}

func TestBound(t *testing.T) {
	d := New(api.Limits{Files: 1})
	refuse(t, d, create("/f"), api.ENFILE)
	d.Bound(api.Limits{Files: 2, Bytes: 1})
	must(t, d, create("/f"))
	refuse(t, d, write("/f", "xx"), api.ENOSPC)
	d.Bound(api.Limits{})
	must(t, d, write("/f", "xx"), create("/g"))
	d.Bound(api.Limits{Files: 1, Bytes: 1, Name: 1}) // what is there stays
	text(t, d, "/f", "xx")
	if d.Steps() != 3 || d.Pending() != 3 {
		t.Error(d.Steps(), d.Pending())
	}
}

func TestNotMade(t *testing.T) {
	for _, d := range []*Disk{nil, new(Disk), {}} {
		d.Fuse(3)
		d.Bound(api.Limits{Files: 1})
		d.Crash(0, nil)
		d.Crash(-1, []int{1, -1})
		for _, p := range []string{"", "/", "/a"} {
			x := api.Op{Kind: api.OCreate, Path: p}
			if e := d.Check(x); e != api.ENIL {
				t.Error("Check", e)
			}
			if e := d.Do(x); e != api.ENIL {
				t.Error("Do", e)
			}
			if e := d.Sync(p); e != api.ENIL {
				t.Error("Sync", e)
			}
			if x, e := d.Stat(p); x != (api.Entry{}) || e != api.ENIL {
				t.Error("Stat", x, e)
			}
			if l, e := d.List(p); len(l) != 0 || e != api.ENIL {
				t.Error("List", l, e)
			}
			if s, e := d.Read(p); s != "" || e != api.ENIL {
				t.Error("Read", s, e)
			}
		}
		if s := look(d); !s.same(seen{}) {
			t.Errorf("%v", s)
		}
	}
}

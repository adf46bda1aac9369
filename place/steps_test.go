package place_test

import (
	"fmt"
	"slices"
	"strings"
	"testing"

	"cellarer/api"
	"cellarer/disk"
	"cellarer/place"
)

// call is Stage, or one of those that take the same.
type call func(d *disk.Disk, l []place.Item) api.Errno

// steps is how a call goes: the steps that it does, and the error of the one
// that it does not.
type steps struct {
	what string
	on   []api.File // what is there
	more []act      // what was done to it then
	l    []place.Item
	want []act
	e    api.Errno
}

// disk is what a call begins with.
func (s steps) disk(t *testing.T) *disk.Disk {
	t.Helper()
	d := holding(t, s.on...)
	for _, a := range s.more {
		must(t, a.do(d))
	}
	return d
}

// hold sees that a call does these steps and no other ones, wherever power goes
// off: on a twin of its disk they are done one by one.
func (s steps) hold(t *testing.T, do call) {
	t.Helper()
	for n := range len(s.want) + 2 {
		d, twin := s.disk(t), s.disk(t)
		want := s.e
		if n < len(s.want) {
			want = api.EOFF
		}
		if n > len(s.want) {
			n = -1
		}
		d.Fuse(n)
		twin.Fuse(n)
		for _, a := range s.want {
			if e := a.do(twin); e != api.OK {
				break
			}
		}
		given := fmt.Sprintf("%#v", s.l)
		e := do(d, s.l)
		if e != want || look(d) != look(twin) {
			t.Errorf("%s with %d steps: %d, want %d\n%s\nwant\n%s", s.what, n, e, want, look(d), look(twin))
		}
		if fmt.Sprintf("%#v", s.l) != given {
			t.Errorf("%s: the items were changed", s.what)
		}
	}
}

func holdAll(t *testing.T, do call, l []steps) {
	t.Helper()
	for _, s := range l {
		s.hold(t, do)
	}
}

func items(l ...place.Item) []place.Item { return l }

// P21.2

func TestStage(t *testing.T) {
	f, g := item(file("/g", "text"), "/g", true), item(file("/h", "more"), "/h", true)
	fSteps := []act{create("/g.dpkg-new", newMeta), write("/g.dpkg-new", "text"), sync("/g.dpkg-new")}
	left := []api.File{file("/g.dpkg-new", "left")}
	behind := func(l ...act) []act { return append([]act{unlink("/g.dpkg-new")}, l...) }
	other := item(api.File{Path: "/g", Kind: 9, Meta: newMeta, Text: "text"}, "/g", true)
	holdAll(t, place.Stage, []steps{
		{"nothing", nil, nil, nil, nil, api.OK},
		{"a file", nil, nil, items(f), fSteps, api.OK},
		{"a file that is there", []api.File{file("/g", "old")}, nil, items(item(f.File, "/g", false)), fSteps, api.OK},
		{"a file at another place", nil, nil, items(item(f.File, "/h", true)), []act{create("/h.dpkg-new", newMeta), write("/h.dpkg-new", "text"), sync("/h.dpkg-new")}, api.OK},
		{"an empty file", nil, nil, items(item(file("/g", ""), "/g", true)), []act{create("/g.dpkg-new", newMeta), sync("/g.dpkg-new")}, api.OK},
		{"another kind", nil, nil, items(other), fSteps, api.OK},
		{"a link", nil, nil, items(item(toLink("/g", "to"), "/g", true)), []act{symlink("/g.dpkg-new", "to", newMeta)}, api.OK},
		{"a link that is there", []api.File{toLink("/g", "old")}, nil, items(item(toLink("/g", "to"), "/g", false)), []act{symlink("/g.dpkg-new", "to", newMeta)}, api.OK},
		{"a directory", nil, nil, items(item(dir("/e"), "/e", true)), []act{mkdir("/e", newMeta)}, api.OK},
		{"a directory that is there", []api.File{dir("/e")}, nil, items(item(dir("/e"), "/e", false)), nil, api.OK},
		{"a directory said to be there", nil, nil, items(item(dir("/e"), "/e", false)), nil, api.OK},
		{"a directory beside a file of its name", []api.File{file("/e.dpkg-new", "")}, nil, items(item(dir("/e"), "/e", true)), []act{mkdir("/e", newMeta)}, api.OK},
		{"one by one", nil, nil, items(item(dir("/e"), "/e", true), item(file("/e/f", "1"), "/e/f", true), item(dir("/e/g"), "/e/g", true), item(toLink("/e/l", "g"), "/e/l", true)), []act{
			mkdir("/e", newMeta), create("/e/f.dpkg-new", newMeta), write("/e/f.dpkg-new", "1"), sync("/e/f.dpkg-new"), mkdir("/e/g", newMeta), symlink("/e/l.dpkg-new", "g", newMeta),
		}, api.OK},
		// What was left
		{"a file was left", left, nil, items(f), behind(fSteps...), api.OK},
		{"a link was left", []api.File{toLink("/g.dpkg-new", "left")}, nil, items(f), behind(fSteps...), api.OK},
		{"a file was left for a link", left, nil, items(item(toLink("/g", "to"), "/g", true)), behind(symlink("/g.dpkg-new", "to", newMeta)), api.OK},
		{"a name of a file", []api.File{file("/g", "old")}, []act{link("/g", "/g.dpkg-new"), sync("/")}, items(f), behind(fSteps...), api.OK},
		{"a dirty file was left", nil, []act{create("/g.dpkg-new", oldMeta), write("/g.dpkg-new", "left")}, items(f), behind(fSteps...), api.OK},
		{"another file is left", []api.File{file("/g.dpkg-tmp", "left"), file("/g.dpkg-dist", "left")}, nil, items(f), fSteps, api.OK},
		{"one behind another", nil, nil, items(f, item(file("/g.dpkg-new", "more"), "/g.dpkg-new", true)), append(slices.Clone(fSteps), create("/g.dpkg-new.dpkg-new", newMeta), write("/g.dpkg-new.dpkg-new", "more"), sync("/g.dpkg-new.dpkg-new")), api.OK},
		{"twice", nil, nil, items(f, f), append(slices.Clone(fSteps), behind(fSteps...)...), api.OK},
		// Errors
		{"a directory was left", []api.File{dir("/h.dpkg-new")}, nil, items(f, g), fSteps, api.EISDIR},
		{"a directory twice", nil, nil, items(item(dir("/e"), "/e", true), item(dir("/e"), "/e", true), f), []act{mkdir("/e", newMeta)}, api.EEXIST},
		{"below none", nil, nil, items(f, item(file("/e/g", ""), "/e/g", true), g), fSteps, api.ENOENT},
		{"a directory below none", nil, nil, items(f, item(dir("/e/g"), "/e/g", true), g), fSteps, api.ENOENT},
		{"below a file", []api.File{file("/e", "")}, nil, items(f, item(toLink("/e/g", "x"), "/e/g", true), g), fSteps, api.ENOTDIR},
		{"below a directory that comes later", nil, nil, items(f, item(file("/a", ""), "/e/a", true), item(dir("/e"), "/e", true)), fSteps, api.ENOENT},
		{"too long a text", nil, nil, items(item(file("/g", strings.Repeat("x", api.MaxText+1)), "/g", true), g), fSteps[:1], api.ELONG},
		{"the longest text", nil, nil, items(item(file("/g", strings.Repeat("x", api.MaxText)), "/g", true)), []act{fSteps[0], write("/g.dpkg-new", strings.Repeat("x", api.MaxText)), fSteps[2]}, api.OK},
		{"a link to nothing", nil, nil, items(f, item(toLink("/h", ""), "/h", true), g), fSteps, api.EARG},
		{"a link to what is too long", nil, nil, items(f, item(toLink("/h", strings.Repeat("x", 201)), "/h", true)), fSteps, api.ELONG},
		{"a meta that can't be", nil, nil, items(f, item(api.File{Path: "/h", Kind: api.KFile, Meta: api.Meta{Mode: 4096}}, "/h", true), g), fSteps, api.EARG},
		{"no right path", nil, nil, items(f, item(file("h", ""), "h", true), g), fSteps, api.EARG},
		{"the longest path", nil, nil, items(item(dir(long(200)), long(200), true), item(toLink(long(191), "x"), long(191), true)), []act{mkdir(long(200), newMeta), symlink(long(191)+newEnd, "x", newMeta)}, api.OK},
		{"too long a path", nil, nil, items(f, item(file(long(192), ""), long(192), true), g), fSteps, api.EARG},
		{"no item of Make", nil, nil, items(place.Item{}), nil, api.EARG},
	})
}

// long is a path of so many bytes.
func long(n int) string { return "/" + strings.Repeat("a", n-1) }

// staged is what is there behind Stage of some items.
func staged(l ...place.Item) []act {
	var out []act
	for _, x := range l {
		out = append(out, create(x.At+newEnd, newMeta), write(x.At+newEnd, x.File.Text), sync(x.At+newEnd))
	}
	return out
}

func TestSwap(t *testing.T) {
	f, g := item(file("/f", "text"), "/f", false), item(file("/g", "more"), "/g", true)
	fSteps := []act{rename("/f", "/f.dpkg-tmp"), rename("/f.dpkg-new", "/f")}
	gSteps := []act{rename("/g.dpkg-new", "/g")}
	old := []api.File{file("/f", "old")}
	holdAll(t, place.Swap, []steps{
		{"nothing", nil, nil, nil, nil, api.OK},
		{"a file that is there", old, staged(f), items(f), fSteps, api.OK},
		{"a file", nil, staged(g), items(g), gSteps, api.OK},
		{"at another place", old, staged(f), items(item(file("/other", ""), "/f", false)), fSteps, api.OK},
		{"a link for a file", old, []act{symlink("/f.dpkg-new", "to", newMeta)}, items(item(toLink("/f", "to"), "/f", false)), fSteps, api.OK},
		{"a file for a link", []api.File{toLink("/f", "old")}, staged(f), items(f), fSteps, api.OK},
		{"another kind", old, staged(f), items(item(api.File{Path: "/f", Kind: 9}, "/f", false)), fSteps, api.OK},
		{"directories", []api.File{dir("/d")}, []act{mkdir("/e", newMeta)}, items(item(dir("/d"), "/d", false), item(dir("/e"), "/e", true)), nil, api.OK},
		{"a directory beside files of its name", []api.File{dir("/d"), file("/d.dpkg-new", ""), file("/d.dpkg-tmp", "")}, nil, items(item(dir("/d"), "/d", false), item(dir("/d"), "/d", true)), nil, api.OK},
		{"one by one", append([]api.File{file("/h", "")}, old...), staged(f, g, item(file("/h", ""), "/h", false)), items(f, item(dir("/e"), "/e", true), g, item(file("/h", ""), "/h", false)),
			slices.Concat(fSteps, gSteps, []act{rename("/h", "/h.dpkg-tmp"), rename("/h.dpkg-new", "/h")}), api.OK},
		{"something was left", append([]api.File{file("/f.dpkg-tmp", "left")}, old...), staged(f), items(f), fSteps, api.OK},
		{"something came in the meantime", []api.File{file("/g", "came")}, staged(g), items(g), gSteps, api.OK},
		// Errors
		{"nothing is there", nil, staged(f, g), items(g, f, g), gSteps, api.ENOENT},
		{"nothing comes", old, nil, items(f, g), fSteps[:1], api.ENOENT},
		{"nothing comes that is fresh", old, staged(f), items(f, g, f), fSteps, api.ENOENT},
		{"a directory was left", append([]api.File{dir("/f.dpkg-tmp")}, old...), staged(f, g), items(g, f), gSteps, api.EISDIR},
		{"a directory came in the meantime", []api.File{dir("/g")}, staged(f, g), items(g), nil, api.EISDIR},
		{"a directory is there", []api.File{dir("/f")}, staged(f), items(f), fSteps, api.OK},
		{"a directory for one that was left", []api.File{dir("/f"), dir("/f.dpkg-tmp"), file("/f.dpkg-tmp/x", "")}, staged(f), items(f), nil, api.ENOTEMPTY},
		{"too long a path", []api.File{file(long(192), "")}, nil, items(item(file(long(192), ""), long(192), false)), nil, api.EARG},
	})
}

func TestCommit(t *testing.T) {
	f, g := item(file("/f", "text"), "/f", false), item(file("/g", "more"), "/g", true)
	left := []api.File{file("/f", "new"), file("/f.dpkg-tmp", "old"), file("/g.dpkg-tmp", "x"), dir("/d"), file("/d.dpkg-tmp", "x"), toLink("/l.dpkg-tmp", "x")}
	behind := func(l ...act) []act { return slices.Concat([]act{sync("/")}, l, []act{sync("/")}) }
	holdAll(t, place.Commit, []steps{
		{"nothing", left, nil, nil, behind(), api.OK},
		{"a file", left, nil, items(f), behind(unlink("/f.dpkg-tmp")), api.OK},
		{"what is fresh, and directories", left, nil, items(g, item(dir("/d"), "/d", false), item(dir("/d"), "/d", true)), behind(), api.OK},
		{"one by one", left, nil, items(item(toLink("/l", "y"), "/l", false), item(dir("/d"), "/d", false), f, g), behind(unlink("/l.dpkg-tmp"), unlink("/f.dpkg-tmp")), api.OK},
		{"at another place", left, nil, items(item(file("/other", ""), "/f", false)), behind(unlink("/f.dpkg-tmp")), api.OK},
		{"another kind", left, nil, items(item(api.File{Path: "/f"}, "/f", false)), behind(unlink("/f.dpkg-tmp")), api.OK},
		{"behind what is pending", left, []act{create("/new", newMeta), rename("/new", "/newer")}, items(f), behind(unlink("/f.dpkg-tmp")), api.OK},
		// Errors
		{"none was left", left, nil, items(f, item(file("/none", ""), "/none", false), f), []act{sync("/"), unlink("/f.dpkg-tmp")}, api.ENOENT},
		{"a directory was left", []api.File{dir("/f.dpkg-tmp")}, nil, items(f, f), []act{sync("/")}, api.EISDIR},
		{"no right path", left, nil, items(item(file("f", ""), "f", false)), []act{sync("/")}, api.EARG},
	})
}

// P21.3

func TestUndo(t *testing.T) {
	f, g, h := item(file("/f", "text"), "/f", false), item(file("/g", "more"), "/g", true), item(file("/h", "much"), "/h", false)
	d, e, ee := item(dir("/d"), "/d", false), item(dir("/e"), "/e", true), item(dir("/e/e"), "/e/e", true)
	eg := item(file("/e/g", ""), "/e/g", true)
	old := []api.File{file("/f", "old"), file("/h", "older"), dir("/d")}
	behind := func(l ...act) []act { return append(slices.Clip(l), sync("/")) }
	holdAll(t, place.Undo, []steps{
		{"nothing", old, nil, nil, behind(), api.OK},
		{"nothing was done", old, nil, items(d, e, ee, f, g, h), behind(), api.OK},
		{"all was staged", old, append([]act{mkdir("/e", newMeta)}, staged(f, g, eg)...), items(d, e, eg, f, g), behind(unlink("/e/g.dpkg-new"), unlink("/f.dpkg-new"), unlink("/g.dpkg-new"), rmdir("/e")), api.OK},
		{"one was staged", old, staged(f), items(f, g, h), behind(unlink("/f.dpkg-new")), api.OK},
		{"one is half there", old, []act{create("/f.dpkg-new", newMeta)}, items(f, g, h), behind(unlink("/f.dpkg-new")), api.OK},
		{"a link was staged", old, []act{symlink("/f.dpkg-new", "x", newMeta)}, items(item(toLink("/f", "x"), "/f", false)), behind(unlink("/f.dpkg-new")), api.OK},
		{"one was put aside", old, append(staged(f), rename("/f", "/f.dpkg-tmp")), items(f), behind(unlink("/f.dpkg-new"), rename("/f.dpkg-tmp", "/f")), api.OK},
		{"one was swapped", old, append(staged(f, h), rename("/f", "/f.dpkg-tmp"), rename("/f.dpkg-new", "/f")), items(f, h), behind(rename("/f.dpkg-tmp", "/f"), unlink("/h.dpkg-new")), api.OK},
		{"all were swapped", old, append(append([]act{mkdir("/e", newMeta)}, staged(eg, f, g)...), rename("/e/g.dpkg-new", "/e/g"), rename("/f", "/f.dpkg-tmp"), rename("/f.dpkg-new", "/f"), rename("/g.dpkg-new", "/g")), items(e, eg, f, g),
			behind(unlink("/e/g"), rename("/f.dpkg-tmp", "/f"), unlink("/g"), rmdir("/e")), api.OK},
		{"a fresh one with all three", old, append(staged(g), create("/g", newMeta), create("/g.dpkg-tmp", oldMeta)), items(g), behind(unlink("/g.dpkg-new"), rename("/g.dpkg-tmp", "/g")), api.OK},
		{"a fresh one with what was left", old, []act{create("/g", newMeta), create("/g.dpkg-tmp", oldMeta)}, items(g), behind(unlink("/g"), rename("/g.dpkg-tmp", "/g")), api.OK},
		{"at another place", old, append(staged(f), rename("/f", "/f.dpkg-tmp")), items(item(file("/other", ""), "/f", false)), behind(unlink("/f.dpkg-new"), rename("/f.dpkg-tmp", "/f")), api.OK},
		{"another kind", old, append(staged(f), rename("/f", "/f.dpkg-tmp")), items(item(api.File{}, "/f", false)), behind(unlink("/f.dpkg-new"), rename("/f.dpkg-tmp", "/f")), api.OK},
		{"directories from the last one on", old, []act{mkdir("/e", newMeta), mkdir("/e/e", newMeta), mkdir("/e2", newMeta), mkdir("/e3", newMeta)}, items(e, item(dir("/e3"), "/e3", true), ee, g, item(dir("/e2"), "/e2", true)), behind(rmdir("/e2"), rmdir("/e/e"), rmdir("/e3"), rmdir("/e")), api.OK},
		{"directories that were there", old, nil, items(d), behind(), api.OK},
		{"directories beside files of their names", []api.File{dir("/e"), file("/e.dpkg-new", ""), file("/e.dpkg-tmp", "")}, nil, items(e), behind(rmdir("/e")), api.OK},
		{"behind what is pending", old, []act{mkdir("/new", newMeta)}, items(f), behind(), api.OK},
		// What can't be undone, and what remains
		{"directories are in the way", []api.File{dir("/f.dpkg-new"), dir("/f.dpkg-tmp"), file("/f", ""), dir("/e"), file("/e/x", "")}, append([]act{create("/g", newMeta)}, staged(h)...), items(f, e, ee, g, h), behind(unlink("/g"), unlink("/h.dpkg-new")), api.OK},
		{"a directory at what is fresh", []api.File{dir("/g"), file("/g.dpkg-tmp", "")}, staged(h), items(g, h), behind(unlink("/h.dpkg-new")), api.OK},
		{"a directory in the way of what was put aside", []api.File{dir("/f.dpkg-new"), file("/f.dpkg-tmp", "")}, nil, items(f), behind(rename("/f.dpkg-tmp", "/f")), api.OK},
		{"some directory has more", []api.File{dir("/e"), dir("/e/e"), file("/e/e/x", ""), dir("/e2")}, nil, items(item(dir("/e2"), "/e2", true), e, ee), behind(rmdir("/e2")), api.OK},
		{"a file where a directory was", []api.File{file("/e", "")}, nil, items(e), behind(), api.OK},
		{"no right paths", old, staged(h), items(item(file("f", ""), "f", true), item(dir("e"), "e", true), item(dir("/"), "/", true), h), behind(unlink("/h.dpkg-new")), api.OK},
	})
}

// Without power Undo says so, whatever is to be undone; that there is no disk is
// no error of it.
func TestWithoutPower(t *testing.T) {
	f, g, e := item(file("/f", "text"), "/f", false), item(file("/g", ""), "/g", true), item(dir("/e"), "/e", true)
	on := []api.File{file("/f", "old"), file("/f.dpkg-new", "new"), file("/f.dpkg-tmp", "older"), dir("/e")}
	for d, want := range without(t, on...) {
		undone := api.OK
		if want == api.EOFF {
			undone = api.EOFF
		}
		before := look(d)
		for _, c := range []struct {
			what string
			do   call
			l    []place.Item
			want api.Errno
		}{
			{"Stage of nothing", place.Stage, nil, api.OK},
			{"Stage of a directory that is there", place.Stage, items(item(dir("/d"), "/d", false)), api.OK},
			{"Stage", place.Stage, items(f), want},
			{"Stage of a link", place.Stage, items(item(toLink("/l", "x"), "/l", true)), want},
			{"Stage of a directory", place.Stage, items(e), want},
			{"Swap of nothing", place.Swap, nil, api.OK},
			{"Swap of a directory", place.Swap, items(e), api.OK},
			{"Swap", place.Swap, items(f), want},
			{"Swap of what is fresh", place.Swap, items(g), want},
			{"Commit of nothing", place.Commit, nil, want},
			{"Commit", place.Commit, items(f, g, e), want},
			{"Undo of nothing", place.Undo, nil, undone},
			{"Undo", place.Undo, items(f, g, e), undone},
			{"Sweep", func(d *disk.Disk, _ []place.Item) api.Errno { return place.Sweep(d) }, nil, undone},
		} {
			if e := c.do(d, c.l); e != c.want || look(d) != before {
				t.Errorf("%s: %d, want %d", c.what, e, c.want)
			}
		}
	}
}

// Limits strike at each step at which they can.
func TestStageLimits(t *testing.T) {
	l := items(item(dir("/e"), "/e", true), item(file("/e/f", "12345"), "/e/f", true), item(toLink("/e/link", "678"), "/e/link", true))
	all := []act{mkdir("/e", newMeta), create("/e/f.dpkg-new", newMeta), write("/e/f.dpkg-new", "12345"), sync("/e/f.dpkg-new"), symlink("/e/link.dpkg-new", "678", newMeta)}
	for _, c := range []struct {
		limits api.Limits
		done   int
		e      api.Errno
	}{
		{api.Limits{Files: 1}, 0, api.ENFILE},
		{api.Limits{Files: 2}, 1, api.ENFILE},
		{api.Limits{Files: 3}, 4, api.ENFILE},
		{api.Limits{Files: 4}, 5, api.OK},
		{api.Limits{Bytes: 1}, 2, api.ENOSPC},
		{api.Limits{Bytes: 4}, 2, api.ENOSPC},
		{api.Limits{Bytes: 5}, 4, api.ENOSPC},
		{api.Limits{Bytes: 7}, 4, api.ENOSPC},
		{api.Limits{Bytes: 8}, 5, api.OK},
		{api.Limits{Name: len("f" + newEnd)}, 4, api.ELONG},
		{api.Limits{Name: len("f")}, 1, api.ELONG},
		{api.Limits{Name: len("link" + newEnd)}, 5, api.OK},
	} {
		d, twin := disk.New(c.limits), disk.New(c.limits)
		for _, a := range all[:c.done] {
			must(t, a.do(twin))
		}
		if e := place.Stage(d, l); e != c.e || look(d) != look(twin) {
			t.Errorf("%v: %d, want %d\n%s", c.limits, e, c.e, look(d))
		}
	}
}

// Of Swap only the limit of names can strike.
func TestSwapLimits(t *testing.T) {
	l := items(item(file("/f", "1"), "/f", false), item(file("/long", "2"), "/long", false), item(file("/longer", "3"), "/longer", true))
	on := []api.File{file("/f", "a"), file("/long", "b")}
	for n, want := range map[int]int{0: 5, 1: 0, len("f" + tmpEnd): 2, len("long" + tmpEnd): 5} {
		d, twin := holding(t, on...), holding(t, on...)
		must(t, place.Stage(d, l))
		must(t, place.Stage(twin, l))
		d.Bound(api.Limits{Name: n, Files: 1, Bytes: 1})
		done := 0
		for _, a := range []act{rename("/f", "/f"+tmpEnd), rename("/f"+newEnd, "/f"), rename("/long", "/long"+tmpEnd), rename("/long"+newEnd, "/long"), rename("/longer"+newEnd, "/longer")} {
			if done < want {
				must(t, a.do(twin))
				done++
			}
		}
		e := api.OK
		if want < 5 {
			e = api.ELONG
		}
		if got := place.Swap(d, l); got != e || look(d) != look(twin) {
			t.Errorf("names of %d: %d, want %d", n, got, e)
		}
	}
	d := holding(t)
	fresh := items(item(file("/fresh", ""), "/fresh", true))
	must(t, place.Stage(d, fresh))
	d.Bound(api.Limits{Name: len("fresh") - 1})
	if e := place.Swap(d, fresh); e != api.ELONG {
		t.Errorf("a fresh one: %d", e)
	}
}

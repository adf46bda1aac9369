package place_test

import (
	"testing"

	"cellarer/api"
	"cellarer/disk"
	"cellarer/place"
)

func sweep(d *disk.Disk, _ []place.Item) api.Errno { return place.Sweep(d) }

// P21.4

func TestSweep(t *testing.T) {
	behind := func(l ...act) []act { return append(l, sync("/")) }
	f := func(l ...string) []api.File {
		out := []api.File{dir("/d")}
		for _, p := range l {
			out = append(out, file(p, "text of "+p))
		}
		return out
	}
	dirs := func(l ...string) []api.File {
		var out []api.File
		for _, p := range l {
			out = append(out, dir(p))
		}
		return out
	}
	holdAll(t, sweep, []steps{
		{what: "nothing"},
		{what: "nothing of these endings", on: f("/a", "/d/a", "/a.dpkg-dist", "/a.dpkg-new.x", "/.dpkg-new.", "/a.dpkg-tmp~", "/adpkg-new", "/a.dpkg-ne", "/a.dpkg-tmpp", "/dpkg-tmp", "/a.DPKG-TMP")},
		{what: "pending as it is", on: f("/a"), more: []act{create("/b", newMeta), write("/b", "x")}},
		// What was to come
		{what: "a new file", on: f("/a.dpkg-new"), want: behind(unlink("/a.dpkg-new"))},
		{what: "a new link", on: []api.File{toLink("/a.dpkg-new", "x")}, want: behind(unlink("/a.dpkg-new"))},
		{what: "a new one beside what is there", on: f("/a", "/a.dpkg-new"), want: behind(unlink("/a.dpkg-new"))},
		{what: "new ones, rising", on: f("/d/b.dpkg-new", "/d.dpkg-new", "/d/a.dpkg-new", "/z.dpkg-new", "/d/.dpkg-new", "/.dpkg-new"),
			want: behind(unlink("/.dpkg-new"), unlink("/d.dpkg-new"), unlink("/d/.dpkg-new"), unlink("/d/a.dpkg-new"), unlink("/d/b.dpkg-new"), unlink("/z.dpkg-new"))},
		{what: "a dirty one", on: f(), more: []act{create("/a.dpkg-new", newMeta), write("/a.dpkg-new", "x")}, want: behind(unlink("/a.dpkg-new"))},
		{what: "a new one of a new one", on: f("/a.dpkg-new.dpkg-new", "/a.dpkg-tmp.dpkg-new"), want: behind(unlink("/a.dpkg-new.dpkg-new"), unlink("/a.dpkg-tmp.dpkg-new"))},
		// What was there
		{what: "what was there", on: f("/a.dpkg-tmp"), want: behind(rename("/a.dpkg-tmp", "/a"))},
		{what: "a link that was there", on: []api.File{toLink("/a.dpkg-tmp", "x")}, want: behind(rename("/a.dpkg-tmp", "/a"))},
		{what: "what is there again", on: f("/a", "/a.dpkg-tmp"), want: behind(unlink("/a.dpkg-tmp"))},
		{what: "what is there again as a link", on: append(f("/a.dpkg-tmp"), toLink("/a", "/none")), want: behind(unlink("/a.dpkg-tmp"))},
		{what: "what is there again as a directory", on: append(f("/a.dpkg-tmp"), dir("/a")), want: behind(unlink("/a.dpkg-tmp"))},
		{what: "another name of it", on: f("/a"), more: []act{link("/a", "/a.dpkg-tmp"), link("/a", "/b.dpkg-tmp"), sync("/")}, want: behind(unlink("/a.dpkg-tmp"), rename("/b.dpkg-tmp", "/b"))},
		{what: "what was there, and what was to come", on: f("/a.dpkg-tmp", "/a.dpkg-new"), want: behind(unlink("/a.dpkg-new"), rename("/a.dpkg-tmp", "/a"))},
		{what: "all that was to come first", on: f("/a.dpkg-tmp", "/b.dpkg-new", "/c.dpkg-tmp", "/d/d.dpkg-new"), want: behind(unlink("/b.dpkg-new"), unlink("/d/d.dpkg-new"), rename("/a.dpkg-tmp", "/a"), rename("/c.dpkg-tmp", "/c"))},
		// One ending behind another
		{what: "twice the ending", on: f("/a.dpkg-tmp.dpkg-tmp"), want: behind(rename("/a.dpkg-tmp.dpkg-tmp", "/a"))},
		{what: "both endings", on: f("/a.dpkg-new.dpkg-tmp"), want: behind(rename("/a.dpkg-new.dpkg-tmp", "/a"))},
		{what: "many endings", on: f("/d/a.dpkg-tmp.dpkg-new.dpkg-new.dpkg-tmp.dpkg-new.dpkg-tmp"), want: behind(rename("/d/a.dpkg-tmp.dpkg-new.dpkg-new.dpkg-tmp.dpkg-new.dpkg-tmp", "/d/a"))},
		{what: "the other way round", on: f("/a.dpkg-tmp.dpkg-new"), want: behind(unlink("/a.dpkg-tmp.dpkg-new"))},
		{what: "several of one", on: f("/a.dpkg-tmp.dpkg-tmp", "/a.dpkg-tmp", "/a.dpkg-new.dpkg-tmp", "/a.dpkg-new"), want: behind(unlink("/a.dpkg-new"), rename("/a.dpkg-new.dpkg-tmp", "/a"), unlink("/a.dpkg-tmp"), unlink("/a.dpkg-tmp.dpkg-tmp"))},
		{what: "other endings", on: f("/a.dpkg-dist.dpkg-tmp", "/a.dpkg-tmp.x.dpkg-tmp"), want: behind(rename("/a.dpkg-dist.dpkg-tmp", "/a.dpkg-dist"), rename("/a.dpkg-tmp.x.dpkg-tmp", "/a.dpkg-tmp.x"))},
		// Directories stay, and what is in them counts by itself.
		{what: "directories", on: dirs("/a.dpkg-new", "/b.dpkg-tmp", "/c.dpkg-new.dpkg-tmp", "/.dpkg-tmp")},
		{what: "in directories", on: append(dirs("/a.dpkg-new", "/b.dpkg-tmp"), file("/a.dpkg-new/x.dpkg-new", ""), file("/b.dpkg-tmp/x.dpkg-tmp", ""), file("/b.dpkg-tmp/x", "")), want: behind(unlink("/a.dpkg-new/x.dpkg-new"), unlink("/b.dpkg-tmp/x.dpkg-tmp"))},
		{what: "behind a directory's ending", on: append(dirs("/a.dpkg-tmp"), file("/a.dpkg-tmp.dpkg-tmp", "")), want: behind(rename("/a.dpkg-tmp.dpkg-tmp", "/a"))},
		// No right paths
		{what: "of the root", on: f("/.dpkg-tmp", "/.dpkg-new.dpkg-tmp"), want: behind(unlink("/.dpkg-new.dpkg-tmp"), unlink("/.dpkg-tmp"))},
		{what: "of no name", on: f("/d/.dpkg-tmp", "/d/.dpkg-tmp.dpkg-tmp"), want: behind(unlink("/d/.dpkg-tmp"), unlink("/d/.dpkg-tmp.dpkg-tmp"))},
		{what: "of a dot", on: f("/d/..dpkg-tmp", "/..dpkg-new.dpkg-tmp"), want: behind(unlink("/..dpkg-new.dpkg-tmp"), unlink("/d/..dpkg-tmp"))},
		{what: "of two dots", on: f("/d/...dpkg-tmp"), want: behind(unlink("/d/...dpkg-tmp"))},
		{what: "of three dots", on: f("/d/....dpkg-tmp"), want: behind(rename("/d/....dpkg-tmp", "/d/..."))},
		{what: "of the longest path", on: f(long(191) + tmpEnd), want: behind(rename(long(191)+tmpEnd, long(191)))},
		// The databases' directory too
		{what: "anywhere", on: append(dirs("/var", "/var/lib", "/var/lib/dpkg"), file("/var/lib/dpkg/status.dpkg-tmp", "")), want: behind(rename("/var/lib/dpkg/status.dpkg-tmp", "/var/lib/dpkg/status"))},
	})
}

// A limit of names that came later ends it.
func TestSweepLimits(t *testing.T) {
	d, twin := holding(t, file("/a.dpkg-new", ""), file("/a.dpkg-tmp", ""), file("/long.dpkg-tmp", ""), file("/z.dpkg-tmp", "")), disk.New(api.Limits{})
	for _, p := range []string{"/a.dpkg-new", "/a.dpkg-tmp", "/long.dpkg-tmp", "/z.dpkg-tmp"} {
		must(t, create(p, oldMeta).do(twin))
		must(t, write(p, "").do(twin))
		must(t, twin.Sync(p))
	}
	must(t, twin.Sync("/"))
	must(t, unlink("/a.dpkg-new").do(twin))
	must(t, rename("/a.dpkg-tmp", "/a").do(twin))
	d.Bound(api.Limits{Name: len("lon"), Files: 1, Bytes: 1})
	if e := place.Sweep(d); e != api.ELONG || look(d) != look(twin) {
		t.Errorf("%d, %s", e, look(d))
	}
}

// Without power what there is to sweep can't be swept.
func TestSweepWithoutPower(t *testing.T) {
	for _, c := range []struct {
		on   []api.File
		want api.Errno
	}{
		{nil, api.OK},
		{[]api.File{file("/a", ""), dir("/b.dpkg-tmp")}, api.OK},
		{[]api.File{file("/a.dpkg-new", "")}, api.EOFF},
		{[]api.File{file("/a.dpkg-tmp", "")}, api.EOFF},
		{[]api.File{file("/a", ""), file("/a.dpkg-tmp", "")}, api.EOFF},
	} {
		for d, e := range without(t, c.on...) {
			want := c.want
			if e == api.ENIL {
				want = api.OK
			}
			before := look(d)
			if e := place.Sweep(d); e != want || look(d) != before {
				t.Errorf("%v: %d, want %d", c.on, e, want)
			}
		}
	}
}

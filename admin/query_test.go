package admin_test

import (
	"testing"

	"cellarer/admin"
	"cellarer/api"
	"cellarer/disk"
	"cellarer/fire"
)

// settled makes packages, diversions, alternatives and so on.
const settled = `package a 1
depends b
replaces c
dir /usr 0755 0 0
file /usr/a 0644 0 0 61
conffile /usr/c 0644 0 0 63
interest /usr noawait
package a 2
file /usr/a 4755 0 0 6262
conffile /usr/c 0644 0 0 6464
file /usr/n 0644 0 0 6e
dir /usr 0755 0 0
interest t await
postinst fire t await
package b 1
dir /usr 0755 0 0
file /usr/b 0644 0 0 62
interest t await
postinst override /usr/b 0600 5 5 force update
prerm fire t await
package c 1
file /c 0644 0 0 -
divert /usr/b /usr/b.x c keep
divert /usr/d - - rename
override /usr/a 0400 1 2 once update
unpack a 1
unpack b 1
configure b
configure a
process
install vi /usr/vi /usr/a 5 vi.1 /usr/vi.1 /usr/a.1 vi.2 /usr/vi.2 -
install vi /usr/vi /usr/c 9 vi.2 /usr/vi.2 /usr/b.2
install ed /usr/ed /usr/c -1
set vi /usr/a
`

// queries and actions are lines of each kind.
var queries = []string{"true /usr/b -", "show a", "owner /usr", "query vi"}

var actions = []string{
	"divert /x - - rename", "undivert /usr/b c keep", "override /usr/b 0400 0 0 force update", "unoverride /usr/a", "install ed /usr/ed /usr/a 3 ed.1 /usr/ed.1 /c",
	"withdraw vi /usr/a", "remove-all vi", "set vi /usr/c", "auto vi", "fire u await", "unpack a 2", "unpack c 1", "configure a", "remove a", "remove b", "purge a", "process",
}

// P28.2

func TestTrue(t *testing.T) {
	t.Parallel()
	w := world(t, settled)
	for s, want := range map[string]string{
		"/usr/b -": "/usr/b.x", "/usr/b c": "/usr/b", "/usr/b b": "/usr/b.x", "/usr/b nobody!": "/usr/b.x",
		"/usr/d -": "/usr/d.distrib", "/usr/d c": "/usr/d.distrib", "/usr -": "/usr", "/ -": "/", "/var/lib/dpkg/status x": "/var/lib/dpkg/status", "/usr/b.x c": "/usr/b.x",
	} {
		does(t, w, "true "+s, api.OK, want+"\n")
	}
	for _, p := range []string{"a", "-", "/a/", "//", "/a//b", "/./a", "/a/..", "~"} {
		does(t, w, "true "+p+" -", api.EARG, "")
	}
}

func TestShow(t *testing.T) {
	t.Parallel()
	w := world(t, settled)
	does(t, w, "show a", api.OK, "Package: a\nStatus: installed\nVersion: 1\nDepends: b\nReplaces: c\nConffiles:\n /usr/c af63de4c8601eff2\n")
	does(t, w, "show b", api.OK, "Package: b\nStatus: installed\nVersion: 1\n")
	for _, name := range []string{"c", "-", "A", "b!", "vi"} {
		does(t, w, "show "+name, api.ENOENT, "")
	}
}

func TestOwner(t *testing.T) {
	t.Parallel()
	w := world(t, settled)
	does(t, w, "owner /usr", api.OK, "a\nb\n")
	does(t, w, "owner /usr/b", api.OK, "b\n")
	does(t, w, "owner /usr/c", api.OK, "a\n")
	for _, p := range []string{"/", "/usr/b.x", "/c", "/usr/", "a", "-", "usr"} {
		does(t, w, "owner "+p, api.ENOENT, "")
	}
}

func TestQuery(t *testing.T) {
	t.Parallel()
	w := world(t, settled)
	vi := "/usr/vi\nvi.1\n/usr/vi.1\nvi.2\n/usr/vi.2\n\n/usr/a\n5\n/usr/a.1\n\n/usr/c\n9\n\n/usr/b.2\n\n"
	does(t, w, "query vi", api.OK, "manual /usr/a\n"+vi+"/usr/a\n/usr/a.1\n\n")
	does(t, w, "query ed", api.OK, "auto\n/usr/ed\n\n/usr/c\n-1\n\n/usr/c\n")
	all(t, w, "auto vi\n")
	does(t, w, "query vi", api.OK, "auto\n"+vi+"/usr/c\n\n/usr/b.2\n")
	for _, name := range []string{"vi.1", "-", "VI", "a"} {
		does(t, w, "query "+name, api.ENOENT, "")
	}
}

// Each query does nothing to the disk, and needs neither the lock nor room.
func TestQueriesAlone(t *testing.T) {
	t.Parallel()
	w := world(t, settled)
	write(t, w.Disk(), lockAt, "")
	all(t, w, "limits 1 1 1\n")
	before := sight(w)
	want := admin.Run(settled + "true /usr/b -\nshow a\nowner /usr\nquery vi\n")
	for i, s := range queries {
		got := want[len(want)-4+i]
		if got.Text == "" {
			t.Errorf("%s: nothing", s)
		}
		does(t, w, s, api.OK, got.Text)
	}
	if sight(w) != before {
		t.Error("the world changed")
	}
}

// spoils are what keeps databases from being read.
func spoils(t *testing.T) map[string]func(d *disk.Disk) {
	out := map[string]func(d *disk.Disk){
		"a strange list":        func(d *disk.Disk) { write(t, d, home+"info/x.list", "x") },
		"what is no list":       func(d *disk.Disk) { write(t, d, home+"info/x", "") },
		"a strange alternative": func(d *disk.Disk) { write(t, d, home+"alternatives/vi", "auto\n") },
		"one byte":              func(d *disk.Disk) { text, _ := d.Read(home + "status"); write(t, d, home+"status", text+"\n") },
	}
	for _, name := range databases {
		out["spoilt "+name] = func(d *disk.Disk) { write(t, d, home+name, "x") }
		out["no "+name] = func(d *disk.Disk) { must(t, d.Do(api.Op{Kind: api.OUnlink, Path: home + name})) }
	}
	return out
}

func TestCorrupt(t *testing.T) {
	t.Parallel()
	for what, spoil := range spoils(t) {
		w := world(t, settled+"codes 1\n")
		spoil(w.Disk())
		before := sight(w)
		for _, s := range append(queries, actions...) {
			does(t, w, s, api.ECORRUPT, "")
		}
		does(t, w, "show none", api.ECORRUPT, "")
		does(t, w, "true x -", api.ECORRUPT, "")
		does(t, w, "unpack none 1", api.ECORRUPT, "")
		if sight(w) != before {
			t.Errorf("%s: the world changed", what)
		}
		// Nor does a lock count, or room.
		write(t, w.Disk(), lockAt, "")
		all(t, w, "limits 1 1 1\n")
		for _, s := range append(queries, actions...) {
			does(t, w, s, api.ECORRUPT, "")
		}
	}
}

// A query arms the first crash, and no later command arms it again.
func TestArmed(t *testing.T) {
	t.Parallel()
	for _, s := range append(queries, "show none", "query none", "owner /none", "true none -") {
		w := world(t, settled+"crash 1 0\n")
		must(t, w.Disk().Sync("/"))
		must(t, w.Disk().Sync("/"))
		w.Do(line(t, s))
		must(t, w.Disk().Sync("/"))
		w.Do(line(t, s))
		if e := w.Disk().Sync("/"); e != api.EOFF {
			t.Errorf("%s: %d", s, e)
		}
		// Queries don't reboot: it is for who changes something.
		does(t, w, s, api.EOFF, "")
		does(t, w, "fire u await", api.EOFF, "")
		all(t, w, "fire u await\n")
	}
}

// P28.4

func TestReport(t *testing.T) {
	t.Parallel()
	for _, c := range []struct {
		r    fire.Result
		want string
	}{
		{fire.Result{}, ""},
		{fire.Result{Rounds: 5}, ""},
		{fire.Result{Runs: []string{"b", "a", "b"}, Rounds: 2}, "run b\nrun a\nrun b\n"},
		{fire.Result{Cycles: []string{"a", "b"}}, "cycle a\ncycle b\n"},
		{fire.Result{Failed: []string{"a"}}, "failed a\n"},
		{fire.Result{Runs: []string{"x", "y"}, Cycles: []string{"z", "x"}, Failed: []string{"y", ""}}, "run x\nrun y\ncycle z\ncycle x\nfailed y\nfailed \n"},
	} {
		before := whole(c.r)
		if got := admin.Report(c.r); got != c.want {
			t.Errorf("%+v: %q, want %q", c.r, got, c.want)
		}
		if whole(c.r) != before {
			t.Errorf("changed: %+v", c.r)
		}
	}
}

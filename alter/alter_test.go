package alter_test

import (
	"fmt"
	"slices"
	"strings"
	"testing"

	"cellarer/alter"
	"cellarer/api"
	"cellarer/choose"
	"cellarer/disk"
	"cellarer/store"
)

const (
	altsAt = "/var/lib/dpkg/alternatives/"
	newAt  = "/var/lib/dpkg/updates/new"
	etc    = "/etc/alternatives/"
	tmp    = ".dpkg-tmp"
)

// vi is an alternative that has two slaves, and /opt/b as its best choice.
func vi() api.Alt {
	return api.Alt{
		Name: "vi", Link: "/bin/vi", Cur: "/opt/b",
		Slaves: []api.Slave{{Name: "vi.1", Link: "/man/vi.1"}, {Name: "vi.3", Link: "/man/vi.3"}},
		Choices: []api.Choice{
			{Path: "/opt/a", Prio: 5, Slaves: []string{"/opt/a.1", "/opt/a.3"}},
			{Path: "/opt/b", Prio: 9, Slaves: []string{"", "/opt/b.3"}},
			{Path: "/opt/c", Prio: 5, Slaves: []string{"/opt/c.1", ""}},
		},
	}
}

func ed() api.Alt {
	return api.Alt{Name: "ed", Link: "/bin/ed", Cur: "/opt/a", Choices: []api.Choice{{Path: "/opt/a", Prio: -1}}}
}

// manual is an alternative for which a choice was taken.
func manual(x api.Alt, p string) api.Alt {
	x.Manual, x.Cur = true, p
	return x
}

// given is the state of all tests, with some alternatives.
func given(l ...api.Alt) api.State {
	return api.State{
		Records: []api.Record{{Name: "a", Version: "1", State: api.SInstalled}},
		Diverts: []api.Divert{{Path: "/a", To: "/c"}},
		Alts:    frozen(l),
	}
}

// spared is a list of the same elements with something behind its end, which
// nobody may touch.
func spared[T any](l []T, spare T) []T {
	out := append(slices.Clone(l), spare)
	return out[:len(l)]
}

// frozen is alternatives whose lists all have something behind their ends.
func frozen(l []api.Alt) []api.Alt {
	out := spared(l, api.Alt{Name: "spare"})
	for i, x := range out {
		x.Slaves = spared(x.Slaves, api.Slave{Name: "spare"})
		x.Choices = spared(x.Choices, api.Choice{Path: "/spare"})
		for j, c := range x.Choices {
			x.Choices[j].Slaves = spared(c.Slaves, "/spare")
		}
		out[i] = x
	}
	return out
}

// whole is all of a state, with what is behind the ends of its alternatives.
func whole(st api.State) string {
	st.Alts = slices.Clone(st.Alts[:cap(st.Alts)])
	for i, x := range st.Alts {
		x.Slaves, x.Choices = x.Slaves[:cap(x.Slaves)], slices.Clone(x.Choices[:cap(x.Choices)])
		for j, c := range x.Choices {
			x.Choices[j].Slaves = c.Slaves[:cap(c.Slaves)]
		}
		st.Alts[i] = x
	}
	return show(st)
}

// show is a state as a text, in which lists that are nil and empty are equal.
func show(st api.State) string {
	var out strings.Builder
	for _, x := range st.Alts {
		fmt.Fprintf(&out, "%q %q %v %q %q\n", x.Name, x.Link, x.Manual, x.Cur, x.Slaves)
		for _, c := range x.Choices {
			fmt.Fprintf(&out, "%q %d %q\n", c.Path, c.Prio, c.Slaves)
		}
	}
	st.Alts = nil
	return out.String() + fmt.Sprint(st)
}

func same(a, b api.State) bool { return show(a) == show(b) }

func with(st api.State, l []api.Alt) api.State {
	st.Alts = l
	return st
}

func must(t *testing.T, e api.Errno) {
	t.Helper()
	if e != api.OK {
		t.Fatal(e)
	}
}

func mkdir(p string) api.Op { return api.Op{Kind: api.OMkdir, Path: p} }

func create(p string) api.Op { return api.Op{Kind: api.OCreate, Path: p} }

func symlink(p, text string) api.Op { return api.Op{Kind: api.OSymlink, Path: p, Text: text} }

func unlink(p string) api.Op { return api.Op{Kind: api.OUnlink, Path: p} }

// do changes a disk, so that nothing of it is pending.
func do(t *testing.T, d *disk.Disk, l ...api.Op) {
	t.Helper()
	for _, x := range l {
		must(t, d.Do(x))
	}
	must(t, d.Sync("/"))
}

// laid is a disk with empty databases, and some files.
func laid(t *testing.T) *disk.Disk {
	t.Helper()
	d := disk.New(api.Limits{})
	must(t, store.Format(d))
	do(t, d, mkdir("/bin"), mkdir("/man"), mkdir("/opt"), create("/opt/a"), create("/opt/b"), create("/opt/c"), mkdir("/opt/dir"), symlink("/opt/l", "/none"))
	return d
}

// filled is a disk with a state, and the links of its alternatives.
func filled(t *testing.T, st api.State) *disk.Disk {
	t.Helper()
	d := laid(t)
	must(t, store.Records(d, st.Records))
	must(t, store.Diverts(d, st.Diverts))
	for _, x := range st.Alts {
		must(t, store.Alt(d, x))
		must(t, alter.Fix(d, x))
	}
	return d
}

func holds(t *testing.T, d *disk.Disk, want api.State) {
	t.Helper()
	if st, e := store.Load(d); !same(st, want) || e != api.OK {
		t.Fatalf("Load: %d %s, want %s", e, show(st), show(want))
	}
}

// linksAt are all links below the root, as what they lead to.
func linksAt(d *disk.Disk) map[string]string {
	out := map[string]string{}
	for _, x := range d.Image() {
		if x.Kind == api.KLink {
			out[x.Path] = x.Text
		}
	}
	return out
}

func text(d *disk.Disk, p string) string { return linksAt(d)[p] }

// changes are how one image differs from another one: what went, and what came
// or is another one now.
func changes(old, now []api.Entry) string {
	var went, came []string
	at := func(l []api.Entry, p string) api.Entry {
		i := slices.IndexFunc(l, func(x api.Entry) bool { return x.Path == p })
		if i < 0 {
			return api.Entry{}
		}
		return api.Entry{Path: p, Kind: l[i].Kind, Meta: l[i].Meta, Text: l[i].Text}
	}
	for _, x := range old {
		if at(now, x.Path).Kind == 0 {
			went = append(went, "-"+x.Path)
		}
	}
	for _, x := range now {
		switch had := at(old, x.Path); {
		case had == at(now, x.Path):
		case x.Kind != api.KLink:
			came = append(came, x.Path)
		case x.Meta != api.Meta{Mode: 511}:
			came = append(came, "wrong")
		default:
			came = append(came, x.Path+">"+x.Text)
		}
	}
	return strings.Join(append(went, came...), " ")
}

// trace is what the steps of a call do, as far as it comes: it's seen by what is
// there when power goes off, on one disk after the other.
func trace(t *testing.T, make func() *disk.Disk, call func(d *disk.Disk) api.Errno) ([]string, api.Errno) {
	t.Helper()
	var out []string
	d := make()
	old, pending := d.Image(), d.Pending()
	for n := 0; ; n++ {
		d := make()
		steps := d.Steps()
		d.Fuse(n)
		e := call(d)
		if d.Steps()-steps != n || e == api.EOFF && d.On() || e == api.OK && !d.On() {
			t.Fatalf("with %d steps: %d, %d were done", n, e, d.Steps()-steps)
		}
		if n > 0 {
			step := changes(old, d.Image())
			if d.Pending() == 0 && step == "" && pending > 0 {
				step = "sync"
			} else if d.Pending() != pending+1 {
				step = "?"
			}
			out = append(out, step)
		}
		if d.On() {
			return out, e
		}
		old, pending = d.Image(), d.Pending()
	}
}

// placed are the steps in which a link is placed.
func placed(p, target string) []string {
	return []string{p + tmp + ">" + target, "-" + p + tmp + " " + p + ">" + target}
}

// led are the steps in which a name's admin link, and then its link, are placed.
func led(link, name, target string) []string {
	return append(placed(etc+name, target), placed(link, etc+name)...)
}

// stored are the steps in which an alternative is stored.
func stored(name string) []string {
	return []string{newAt, newAt, "sync", "-" + newAt + " " + altsAt + name, "sync"}
}

func steps(l ...[]string) []string { return slices.Concat(l...) }

func one(l ...string) []string { return l }

// traced holds what a call's steps do against what they are to do.
func traced(t *testing.T, what string, make func() *disk.Disk, call func(d *disk.Disk) api.Errno, want []string, e api.Errno) {
	t.Helper()
	got, f := trace(t, make, call)
	if !slices.Equal(got, want) || f != e {
		t.Errorf("%s: %d, want %d:\n%s\nwant\n%s", what, f, e, strings.Join(got, "\n"), strings.Join(want, "\n"))
	}
}

// P18.1

func TestAdmin(t *testing.T) {
	for name, want := range map[string]string{"vi": "/etc/alternatives/vi", "": "/etc/alternatives/", "a/b": "/etc/alternatives/a/b", "/": "/etc/alternatives//"} {
		if got := alter.Admin(name); got != want {
			t.Errorf("Admin(%q): %q", name, got)
		}
	}
}

func point(link, name, target string) func(*disk.Disk) api.Errno {
	return func(d *disk.Disk) api.Errno { return alter.Point(d, link, name, target) }
}

// on makes disks with some changes.
func on(t *testing.T, l ...api.Op) func() *disk.Disk {
	return func() *disk.Disk {
		d := laid(t)
		do(t, d, l...)
		return d
	}
}

func TestPoint(t *testing.T) {
	const x, link, target = etc + "x", "/bin/x", "/opt/a"
	far := "/bin/" + strings.Repeat("x", 200-len("/bin/")-len(tmp))
	long := "/" + strings.Repeat("t", 199)
	for _, c := range []struct {
		what string
		on   []api.Op
		call func(*disk.Disk) api.Errno
		want []string
		e    api.Errno
	}{
		{"nothing", nil, point(link, "x", target), led(link, "x", target), api.OK},
		{"both links", []api.Op{symlink(x, target), symlink(link, x)}, point(link, "x", target), nil, api.OK},
		{"the admin link", []api.Op{symlink(x, target)}, point(link, "x", target), placed(link, x), api.OK},
		{"the link", []api.Op{symlink(link, x)}, point(link, "x", target), placed(x, target), api.OK},
		{"other links", []api.Op{symlink(x, "/opt"), symlink(link, "/opt/a")}, point(link, "x", target), led(link, "x", target), api.OK},
		{"links to what is longer", []api.Op{symlink(x, target+"/"), symlink(link, x+"x")}, point(link, "x", target), led(link, "x", target), api.OK},
		{"a file", []api.Op{create(link)}, point(link, "x", target), placed(x, target), api.OK},
		{"a directory", []api.Op{mkdir(link)}, point(link, "x", target), placed(x, target), api.OK},
		{"an admin file", []api.Op{create(x)}, point(link, "x", target), placed(link, x), api.OK},
		{"an admin directory", []api.Op{mkdir(x)}, point(link, "x", target), placed(link, x), api.OK},
		{"files", []api.Op{create(x), create(link)}, point(link, "x", target), nil, api.OK},
		{"the root", nil, point("/", "x", target), placed(x, target), api.OK},
		// Where there can be no link.
		{"no directory", nil, point("/no/x", "x", target), placed(x, target), api.OK},
		{"a file as its directory", nil, point("/opt/a/x", "x", target), placed(x, target), api.OK},
		{"a link as its directory", []api.Op{symlink("/opt/bin", "/bin")}, point("/opt/bin/x", "x", target), placed(x, target), api.OK},
		{"no path", nil, point("bin/x", "x", target), placed(x, target), api.OK},
		{"an empty path", nil, point("", "x", target), placed(x, target), api.OK},
		{"too far", nil, point(far+"x", "x", target), placed(x, target), api.OK},
		{"the farthest", nil, point(far, "x", target), led(far, "x", target), api.OK},
		{"no admin directory", []api.Op{{Kind: api.ORmdir, Path: "/etc/alternatives"}}, point(link, "x", target), placed(link, x), api.OK},
		{"a name below no directory", nil, point(link, "a/b", target), placed(link, etc+"a/b"), api.OK},
		{"the longest target", nil, point(link, "x", long), led(link, "x", long), api.OK},
		{"too long a target", nil, point(link, "x", long+"t"), placed(link, x), api.OK},
		{"an empty name", nil, point(link, "", target), one(etc+tmp+">"+target, "-"+etc+tmp), api.EARG},
		// What an end of another call left.
		{"a link that was left", []api.Op{symlink(x+tmp, "/old")}, point(link, "x", target), steps(one("-"+x+tmp), led(link, "x", target)), api.OK},
		{"the same one that was left", []api.Op{symlink(x+tmp, target)}, point(link, "x", target), steps(one("-"+x+tmp), led(link, "x", target)), api.OK},
		{"a file that was left", []api.Op{create(link + tmp)}, point(link, "x", target), steps(placed(x, target), one("-"+link+tmp), placed(link, x)), api.OK},
		{"left beside the link", []api.Op{symlink(x, target), symlink(x+tmp, target)}, point(link, "x", target), placed(link, x), api.OK},
		{"left beside a file", []api.Op{create(link), create(link + tmp)}, point(link, "x", target), placed(x, target), api.OK},
		{"a directory in the way", []api.Op{mkdir(x + tmp)}, point(link, "x", target), nil, api.EISDIR},
		{"a directory in the link's way", []api.Op{mkdir(link + tmp)}, point(link, "x", target), placed(x, target), api.EISDIR},
		// A path of which what is placed has a right one.
		{"no right path", nil, point("/bin/", "x", target), steps(placed(x, target), one("/bin/"+tmp+">"+x, "-/bin/"+tmp)), api.EARG},
		{"left for no right path", []api.Op{create("/bin/" + tmp)}, point("/bin/", "x", target), steps(placed(x, target), one("-/bin/"+tmp, "/bin/"+tmp+">"+x, "-/bin/"+tmp)), api.EARG},
	} {
		traced(t, c.what, on(t, c.on...), c.call, c.want, c.e)
	}
}

func TestPointAway(t *testing.T) {
	const x, link = etc + "x", "/bin/x"
	for _, c := range []struct {
		what string
		on   []api.Op
		call func(*disk.Disk) api.Errno
		want []string
	}{
		{"nothing", nil, point(link, "x", ""), nil},
		{"both", []api.Op{symlink(x, "/opt/a"), symlink(link, x)}, point(link, "x", ""), one("-"+link, "-"+x)},
		{"the link", []api.Op{symlink(link, x)}, point(link, "x", ""), one("-" + link)},
		{"the admin link", []api.Op{symlink(x, "/any")}, point(link, "x", ""), one("-" + x)},
		{"another link", []api.Op{symlink(x, "/opt/a"), symlink(link, "/opt/a")}, point(link, "x", ""), one("-" + x)},
		{"a link to what is longer", []api.Op{symlink(link, x+"x")}, point(link, "x", ""), nil},
		{"a link to another admin link", []api.Op{symlink(link, etc+"y"), symlink(etc+"y", "/opt/a")}, point(link, "x", ""), nil},
		{"a file", []api.Op{symlink(x, "/opt/a"), create(link)}, point(link, "x", ""), one("-" + x)},
		{"a directory", []api.Op{symlink(x, "/opt/a"), mkdir(link)}, point(link, "x", ""), one("-" + x)},
		{"an admin file", []api.Op{create(x), symlink(link, x)}, point(link, "x", ""), one("-" + link)},
		{"an admin directory", []api.Op{mkdir(x), symlink(link, x)}, point(link, "x", ""), one("-" + link)},
		{"no directory", []api.Op{symlink(x, "/opt/a")}, point("/no/x", "x", ""), one("-" + x)},
		{"no path", []api.Op{symlink(x, "/opt/a")}, point("", "x", ""), one("-" + x)},
		{"the root", nil, point("/", "x", ""), nil},
		{"an empty name", []api.Op{symlink(link, etc)}, point(link, "", ""), one("-" + link)},
		{"what was left", []api.Op{symlink(link+tmp, x), symlink(x+tmp, "/opt/a")}, point(link, "x", ""), nil},
	} {
		traced(t, c.what, on(t, c.on...), c.call, c.want, api.OK)
	}
}

func fix(x api.Alt) func(*disk.Disk) api.Errno {
	return func(d *disk.Disk) api.Errno { return alter.Fix(d, x) }
}

func gone(x api.Alt) func(*disk.Disk) api.Errno {
	return func(d *disk.Disk) api.Errno { return alter.Gone(d, x) }
}

func TestFix(t *testing.T) {
	a, b, c := manual(vi(), "/opt/a"), vi(), manual(vi(), "/opt/c")
	short := manual(vi(), "/opt/a")
	short.Choices = []api.Choice{{Path: "/opt/a", Slaves: []string{"/opt/a.1"}}}
	aLinks := steps(led("/bin/vi", "vi", "/opt/a"), led("/man/vi.1", "vi.1", "/opt/a.1"), led("/man/vi.3", "vi.3", "/opt/a.3"))
	for _, x := range []struct {
		what string
		on   func() *disk.Disk
		call func(*disk.Disk) api.Errno
		want []string
		e    api.Errno
	}{
		{"of none", on(t), fix(a), steps(aLinks, one("sync")), api.OK},
		{"of none, with an empty slave", on(t), fix(b), steps(led("/bin/vi", "vi", "/opt/b"), led("/man/vi.3", "vi.3", "/opt/b.3"), one("sync")), api.OK},
		{"without slaves", on(t), fix(ed()), steps(led("/bin/ed", "ed", "/opt/a"), one("sync")), api.OK},
		{"again", func() *disk.Disk { return filled(t, given(ed(), vi())) }, fix(b), nil, api.OK},
		{"of another choice", func() *disk.Disk { return filled(t, given(b)) }, fix(a), steps(
			placed(etc+"vi", "/opt/a"), led("/man/vi.1", "vi.1", "/opt/a.1"), placed(etc+"vi.3", "/opt/a.3"), one("sync")), api.OK},
		{"of one that has less", func() *disk.Disk { return filled(t, given(a)) }, fix(c), steps(
			placed(etc+"vi", "/opt/c"), placed(etc+"vi.1", "/opt/c.1"), one("-/man/vi.3", "-"+etc+"vi.3", "sync")), api.OK},
		{"of one that has too few", func() *disk.Disk { return filled(t, given(a)) }, fix(short), one("-/man/vi.3", "-"+etc+"vi.3", "sync"), api.OK},
		{"of one that is not there", func() *disk.Disk { return filled(t, given(b)) }, fix(manual(b, "/none")), steps(
			placed(etc+"vi", "/none"), one("-/man/vi.3", "-"+etc+"vi.3", "sync")), api.OK},
		{"of nothing", func() *disk.Disk { return filled(t, given(b)) }, fix(manual(b, "")), one("-/bin/vi", "-"+etc+"vi", "-/man/vi.3", "-"+etc+"vi.3", "sync"), api.OK},
		{"where nothing can be", on(t), fix(api.Alt{Name: "a/b", Link: "/no/x", Cur: "/opt/a"}), nil, api.OK},
		{"an error at its link", on(t, mkdir("/bin/vi"+tmp)), fix(a), aLinks[:2], api.EISDIR},
		{"an error at an admin link", on(t, mkdir(etc+"vi.1"+tmp)), fix(a), aLinks[:4], api.EISDIR},
		{"an error at a slave", on(t, mkdir("/man/vi.3"+tmp)), fix(a), aLinks[:10], api.EISDIR},
		{"an error at first", on(t, mkdir(etc+"vi"+tmp)), fix(a), nil, api.EISDIR},
	} {
		traced(t, x.what, x.on, x.call, x.want, x.e)
	}
}

func TestGone(t *testing.T) {
	a := manual(vi(), "/opt/a")
	made := func() *disk.Disk { return filled(t, given(ed(), a)) }
	allLinks := one("-/bin/vi", "-"+etc+"vi", "-/man/vi.1", "-"+etc+"vi.1", "-/man/vi.3", "-"+etc+"vi.3")
	traced(t, "all", made, gone(a), append(allLinks, "sync"), api.OK)
	traced(t, "all, by another choice", made, gone(vi()), append(allLinks, "sync"), api.OK)
	traced(t, "all, by none", made, gone(manual(a, "")), append(allLinks, "sync"), api.OK)
	traced(t, "some", func() *disk.Disk { return filled(t, given(vi())) }, gone(vi()), one("-/bin/vi", "-"+etc+"vi", "-/man/vi.3", "-"+etc+"vi.3", "sync"), api.OK)
	traced(t, "none", on(t), gone(a), nil, api.OK)
	traced(t, "another one's", made, gone(api.Alt{Name: "x", Link: "/bin/vi", Slaves: []api.Slave{{Name: "y", Link: "/man/vi.1"}}}), nil, api.OK)
	d := made()
	do(t, d, unlink("/bin/vi"), create("/bin/vi"), unlink("/man/vi.1"), symlink("/man/vi.1", "/mine"), create("/man/vi.1"+tmp))
	must(t, alter.Gone(d, a))
	want := map[string]string{"/opt/l": "/none", "/bin/ed": etc + "ed", etc + "ed": "/opt/a", "/man/vi.1": "/mine"}
	if got := linksAt(d); fmt.Sprint(got) != fmt.Sprint(want) || d.Pending() != 0 {
		t.Errorf("left: %v, want %v", got, want)
	}
}

// P18.2

func install(name, link, p string, prio int, more ...string) api.Act {
	a := api.Act{Kind: api.CInstall, Name: name, To: link, Path: p, Prio: prio}
	for i := 0; i < len(more); i += 3 {
		a.Slaves = append(a.Slaves, api.Slave{Name: more[i], Link: more[i+1]})
		a.Paths = append(a.Paths, more[i+2])
	}
	return a
}

func remove(name, p string) api.Act { return api.Act{Kind: api.CRemove, Name: name, Path: p} }

func all(name string) api.Act { return api.Act{Kind: api.CAll, Name: name} }

func set(name, p string) api.Act { return api.Act{Kind: api.CSet, Name: name, Path: p} }

func auto(name string) api.Act { return api.Act{Kind: api.CAuto, Name: name} }

// after is the alternatives that a command is to leave of others.
func after(t *testing.T, l []api.Alt, a api.Act) []api.Alt {
	t.Helper()
	var out []api.Alt
	var e api.Errno
	switch a.Kind {
	case api.CInstall:
		out, e = choose.Install(l, a.Name, a.To, api.Choice{Path: a.Path, Prio: a.Prio, Slaves: a.Paths}, a.Slaves)
	case api.CRemove:
		out, e = choose.Remove(l, a.Name, a.Path)
	case api.CAll:
		out, e = choose.All(l, a.Name)
	case api.CSet:
		out, e = choose.Set(l, a.Name, a.Path)
	case api.CAuto:
		out, e = choose.Auto(l, a.Name)
	}
	must(t, e)
	return out
}

// command is a command for some alternatives, and what its steps are.
type command struct {
	what string
	l    []api.Alt
	act  api.Act
	want []string
}

// commands are all ways in which one can end well.
func commands() []command {
	a, b, c := manual(vi(), "/opt/a"), vi(), manual(vi(), "/opt/c")
	l := []api.Alt{ed(), b}
	set1 := led("/man/vi.1", "vi.1", "/opt/a.1")
	away3 := one("-/man/vi.3", "-"+etc+"vi.3")
	return []command{
		{"a new one", l, install("x", "/bin/x", "/opt/a", 1), steps(led("/bin/x", "x", "/opt/a"), one("sync"), stored("x"))},
		{"the first one", nil, install("x", "/bin/x", "/opt/dir", 1), steps(led("/bin/x", "x", "/opt/dir"), one("sync"), stored("x"))},
		{"a new one with slaves", l, install("a", "/bin/x", "/opt/a", 1, "x.2", "/man/x.2", "/opt/a.2", "x.1", "/man/x.1", ""),
			steps(led("/bin/x", "a", "/opt/a"), led("/man/x.2", "x.2", "/opt/a.2"), one("sync"), stored("a"))},
		{"a new one where links can't be", l, install("x", "/no/x", "/opt/l", 1), steps(placed(etc+"x", "/opt/l"), one("sync"), stored("x"))},
		{"a better one", l, install("ed", "/bin/ed", "/opt/b", 1, "ed.1", "/man/ed.1", "/opt/b.1"),
			steps(placed(etc+"ed", "/opt/b"), led("/man/ed.1", "ed.1", "/opt/b.1"), one("sync"), stored("ed"))},
		{"one that is not better", l, install("ed", "/bin/ed", "/opt/b", -1), stored("ed")},
		{"one beside that which was taken", []api.Alt{a}, install("vi", "/bin/vi", "/opt/dir", 20, "vi.1", "/man/vi.1", "/opt/d.1"), stored("vi")},
		{"the current one with other slaves", l, install("vi", "/bin/vi", "/opt/b", 9, "vi.1", "/man/vi.1", "/opt/a.1"), steps(set1, away3, one("sync"), stored("vi"))},
		{"the current one, worse", []api.Alt{b}, install("vi", "/bin/vi", "/opt/b", 5), steps(placed(etc+"vi", "/opt/a"), set1, placed(etc+"vi.3", "/opt/a.3"), one("sync"), stored("vi"))},
		{"the same", l, install("vi", "/bin/vi", "/opt/b", 9, "vi.3", "/man/vi.3", "/opt/b.3"), nil},
		{"set", l, set("vi", "/opt/a"), steps(placed(etc+"vi", "/opt/a"), set1, placed(etc+"vi.3", "/opt/a.3"), one("sync"), stored("vi"))},
		{"set to what is the best", l, set("vi", "/opt/b"), stored("vi")},
		{"set to one with less", []api.Alt{a}, set("vi", "/opt/c"), steps(placed(etc+"vi", "/opt/c"), placed(etc+"vi.1", "/opt/c.1"), away3, one("sync"), stored("vi"))},
		{"set again", []api.Alt{a}, set("vi", "/opt/a"), nil},
		{"auto", []api.Alt{a}, auto("vi"), steps(placed(etc+"vi", "/opt/b"), one("-/man/vi.1", "-"+etc+"vi.1"), placed(etc+"vi.3", "/opt/b.3"), one("sync"), stored("vi"))},
		{"auto of the best", []api.Alt{manual(b, "/opt/b")}, auto("vi"), stored("vi")},
		{"auto again", l, auto("vi"), nil},
		{"remove", l, remove("vi", "/opt/a"), stored("vi")},
		{"remove what is current", l, remove("vi", "/opt/b"), steps(placed(etc+"vi", "/opt/a"), set1, placed(etc+"vi.3", "/opt/a.3"), one("sync"), stored("vi"))},
		{"remove what was taken", []api.Alt{c}, remove("vi", "/opt/c"),
			steps(placed(etc+"vi", "/opt/b"), one("-/man/vi.1", "-"+etc+"vi.1"), led("/man/vi.3", "vi.3", "/opt/b.3"), one("sync"), stored("vi"))},
		{"remove another one than was taken", []api.Alt{c}, remove("vi", "/opt/b"), stored("vi")},
		{"remove the last one", l, remove("ed", "/opt/a"), one("-"+altsAt+"ed", "sync", "-/bin/ed", "-"+etc+"ed", "sync")},
		{"all", l, all("vi"), steps(one("-"+altsAt+"vi", "sync", "-/bin/vi", "-"+etc+"vi"), away3, one("sync"))},
	}
}

// call is a command for a state that was not changed.
func call(t *testing.T, st api.State, a api.Act) func(*disk.Disk) (api.State, api.Errno) {
	return func(d *disk.Disk) (api.State, api.Errno) {
		t.Helper()
		before := whole(st)
		a.Slaves, a.Paths = spared(a.Slaves, api.Slave{Name: "spare"}), spared(a.Paths, "/spare")
		args := fmt.Sprint(a.Slaves[:cap(a.Slaves)], a.Paths[:cap(a.Paths)])
		got, e := alter.Do(d, st, a)
		if whole(st) != before || fmt.Sprint(a.Slaves[:cap(a.Slaves)], a.Paths[:cap(a.Paths)]) != args {
			t.Fatal("an argument was changed")
		}
		if e != api.OK && !same(got, st) {
			t.Fatalf("%d with another state: %s", e, show(got))
		}
		return got, e
	}
}

func alone(call func(*disk.Disk) (api.State, api.Errno)) func(*disk.Disk) api.Errno {
	return func(d *disk.Disk) api.Errno {
		_, e := call(d)
		return e
	}
}

// leads sees that all links of alternatives that can be there lead to what is
// taken, and no others do.
func leads(t *testing.T, d *disk.Disk, l []api.Alt) {
	t.Helper()
	want := map[string]string{"/opt/l": "/none"}
	for _, x := range l {
		names := append([]api.Slave{{Name: x.Name, Link: x.Link}}, x.Slaves...)
		for _, s := range names {
			target := choose.Target(x, s.Name)
			if got := alter.Resolve(d, s.Link); got != target && !strings.HasPrefix(s.Link, "/no/") {
				t.Errorf("%s leads to %q, want %q", s.Link, got, target)
			}
			if target != "" {
				want[etc+s.Name] = target
			}
			if target != "" && !strings.HasPrefix(s.Link, "/no/") {
				want[s.Link] = etc + s.Name
			}
		}
	}
	if got := linksAt(d); fmt.Sprint(got) != fmt.Sprint(want) {
		t.Errorf("links are %v, want %v", got, want)
	}
}

func TestDo(t *testing.T) {
	for _, c := range commands() {
		st := given(c.l...)
		make := func() *disk.Disk { return filled(t, st) }
		traced(t, c.what, make, alone(call(t, st, c.act)), c.want, api.OK)
		d := make()
		leads(t, d, c.l)
		got, e := call(t, st, c.act)(d)
		want := with(st, after(t, c.l, c.act))
		if !same(got, want) || e != api.OK {
			t.Errorf("%s: %d %s, want %s", c.what, e, show(got), show(want))
		}
		holds(t, d, want)
		leads(t, d, want.Alts)
		// What was answered as done lasts.
		d.Crash(0, nil)
		holds(t, d, want)
		leads(t, d, want.Alts)
	}
}

func TestDoWrong(t *testing.T) {
	slave := install("vi", "/bin/vi", "/opt/a", 5, "vi.1", "/man/vi.1", "/opt/a.1")
	few := slave
	few.Paths = nil
	for _, c := range []struct {
		act  api.Act
		want api.Errno
	}{
		{api.Act{}, api.EARG},
		{api.Act{Kind: api.CDivert, Name: "vi", Path: "/opt/a"}, api.EARG},
		{api.Act{Kind: api.CUnover, Name: "vi", Path: "/opt/a"}, api.EARG},
		{api.Act{Kind: api.CFire, Name: "vi", Path: "/opt/a"}, api.EARG},
		{api.Act{Kind: -1, Name: "vi", Path: "/opt/a"}, api.EARG},
		{api.Act{Kind: 11, Name: "vi", Path: "/opt/a"}, api.EARG},
		// A path at which nothing is goes ahead of all else.
		{install("x", "/bin/x", "/opt/none", 1), api.ENOENT},
		{install("x", "/bin/x", "/opt/a/none", 1), api.ENOENT},
		{install("x", "/bin/x", "/opt/a/", 1), api.ENOENT},
		{install("x", "/bin/x", "", 1), api.ENOENT},
		{install("x", "/", "/none", 1), api.ENOENT},
		{install("vi", "/bin/other", "/none", 1), api.ENOENT},
		{few, api.EARG},
		{install("x", "/bin/x", "/", 1), api.EARG},
		{install("X", "/bin/x", "/opt/a", 1), api.EARG},
		{install("x", "/bin/x/", "/opt/a", 1), api.EARG},
		{install("x", "/bin/x", "/opt/a", 1<<31), api.EARG},
		{install("vi", "/bin/other", "/opt/a", 1), api.EALT},
		{install("vi", "/bin/vi", "/opt/a", 1, "vi.1", "/man/other", ""), api.EALT},
		{install("x", "/bin/vi", "/opt/a", 1), api.EALT},
		{install("x", "/bin/x", "/opt/a", 1, "vi.1", "/man/x", ""), api.EALT},
		{remove("x", "/opt/a"), api.ENOENT},
		{remove("vi", "/opt/none"), api.ENOENT},
		{remove("vi", ""), api.ENOENT},
		{remove("vi.1", "/opt/a.1"), api.ENOENT},
		{set("x", "/opt/a"), api.ENOENT},
		{set("vi", "/opt/none"), api.ENOENT},
		{set("ed", "/opt/b"), api.ENOENT},
		{all("x"), api.ENOENT},
		{all(""), api.ENOENT},
		{auto("x"), api.ENOENT},
		{auto("/bin/vi"), api.ENOENT},
	} {
		st := given(ed(), vi())
		traced(t, fmt.Sprint(c.act), func() *disk.Disk { return filled(t, st) }, alone(call(t, st, c.act)), nil, c.want)
	}
	var l []api.Alt
	for i := range api.MaxList {
		name := fmt.Sprintf("m%02d", i)
		l = append(l, api.Alt{Name: name, Link: "/no/" + name, Cur: "/opt/a", Choices: []api.Choice{{Path: "/opt/a"}}})
	}
	st := given(l...)
	d := filled(t, st)
	if _, e := call(t, st, install("x", "/bin/x", "/opt/a", 1))(d); e != api.EFULL {
		t.Errorf("a 65th one: %d", e)
	}
	got, e := call(t, st, set("m63", "/opt/a"))(d)
	must(t, e)
	holds(t, d, got)
}

// Where nothing changes the links are put in order, and no more.
func TestDoNothing(t *testing.T) {
	st := given(ed(), vi())
	broken := func() *disk.Disk {
		d := filled(t, st)
		do(t, d, unlink("/bin/vi"), unlink(etc+"vi"), symlink(etc+"vi", "/opt/a"), symlink(etc+"vi.1", "/opt/a.1"), symlink("/man/vi.1", etc+"vi.1"))
		return d
	}
	for _, a := range []api.Act{auto("vi"), install("vi", "/bin/vi", "/opt/b", 9, "vi.3", "/man/vi.3", "/opt/b.3")} {
		traced(t, "with links that are broken", broken, alone(call(t, st, a)), steps(led("/bin/vi", "vi", "/opt/b"), one("-/man/vi.1", "-"+etc+"vi.1", "sync")), api.OK)
	}
	// An error stays one, and what could be done of it too.
	blocked := func() *disk.Disk {
		d := broken()
		do(t, d, mkdir("/bin/vi"+tmp))
		return d
	}
	traced(t, "with a directory in the way", blocked, alone(call(t, st, auto("vi"))), placed(etc+"vi", "/opt/b"), api.EISDIR)
	// The disk may have another one than the state: it is not looked at.
	d := filled(t, st)
	must(t, store.Alt(d, manual(vi(), "/opt/a")))
	if _, e := call(t, st, auto("vi"))(d); e != api.OK {
		t.Error(e)
	}
	holds(t, d, given(ed(), manual(vi(), "/opt/a")))
}

// An alternative that may not be is not stored, also if nothing changes.
func TestDoWrongAlternative(t *testing.T) {
	odd := vi()
	odd.Choices[2].Prio = 1 << 40
	st := given(ed(), manual(odd, "/opt/b"))
	good := given(ed(), vi())
	make := func() *disk.Disk { return filled(t, good) }
	traced(t, "set", make, alone(call(t, st, set("vi", "/opt/a"))), steps(
		placed(etc+"vi", "/opt/a"), led("/man/vi.1", "vi.1", "/opt/a.1"), placed(etc+"vi.3", "/opt/a.3"), one("sync"),
		placed(etc+"vi", "/opt/b"), one("-/man/vi.1", "-"+etc+"vi.1"), placed(etc+"vi.3", "/opt/b.3"), one("sync")), api.EARG)
	traced(t, "set again", make, alone(call(t, st, set("vi", "/opt/b"))), nil, api.EARG)
	// One that is made right is stored; and one that goes may be anything.
	d := make()
	got, e := call(t, st, remove("vi", "/opt/c"))(d)
	must(t, e)
	holds(t, d, got)
	traced(t, "all", make, alone(call(t, st, all("vi"))), one("-"+altsAt+"vi", "sync", "-/bin/vi", "-"+etc+"vi", "-/man/vi.3", "-"+etc+"vi.3", "sync"), api.OK)
	wrong := api.Alt{Name: "../status", Link: "/bin/vi", Choices: []api.Choice{{Path: "/opt/a"}}}
	traced(t, "all of no name", make, alone(call(t, given(wrong), all("../status"))), nil, api.EARG)
	traced(t, "the last one of no name", make, alone(call(t, given(wrong), remove("../status", "/opt/a"))), nil, api.EARG)
	// Of several of one name the first one's links go.
	other := api.Alt{Name: "vi", Link: "/bin/ed"}
	traced(t, "all of two", make, alone(call(t, given(vi(), other), all("vi"))), one("-"+altsAt+"vi", "sync", "-/bin/vi", "-"+etc+"vi", "-/man/vi.3", "-"+etc+"vi.3", "sync"), api.OK)
}

// Behind an error of what is to be, the links are as they were, or go.
func TestDoUndone(t *testing.T) {
	st := given(ed(), vi())
	x := install("x", "/bin/x", "/opt/a", 1, "x.1", "/man/x.1", "/opt/a.1", "x.2", "/man/x.2", "/opt/a.2")
	xLinks := steps(led("/bin/x", "x", "/opt/a"), led("/man/x.1", "x.1", "/opt/a.1"), led("/man/x.2", "x.2", "/opt/a.2"))
	xGone := one("-/bin/x", "-"+etc+"x", "-/man/x.1", "-"+etc+"x.1", "-/man/x.2", "-"+etc+"x.2", "sync")
	aLinks := steps(placed(etc+"vi", "/opt/a"), led("/man/vi.1", "vi.1", "/opt/a.1"), placed(etc+"vi.3", "/opt/a.3"), one("sync"))
	bLinks := steps(placed(etc+"vi", "/opt/b"), one("-/man/vi.1", "-"+etc+"vi.1"), placed(etc+"vi.3", "/opt/b.3"), one("sync"))
	more := install("vi", "/bin/vi", "/opt/b", 9, "new", "/man/new", "/opt/b.new", "vi.3", "/man/vi.3", "/opt/b.3")
	blocked := func(l ...api.Op) func() *disk.Disk {
		return func() *disk.Disk {
			d := filled(t, st)
			do(t, d, l...)
			return d
		}
	}
	for _, c := range []struct {
		what string
		on   func() *disk.Disk
		act  api.Act
		want []string
		e    api.Errno
	}{
		{"new, at the database", blocked(mkdir(newAt)), x, steps(xLinks, one("sync"), xGone), api.EISDIR},
		{"new, in the database's place", blocked(mkdir(altsAt + "x")), x, steps(xLinks, one("sync", newAt, newAt, "sync", "-"+newAt), xGone), api.EISDIR},
		{"new, at a slave", blocked(mkdir("/man/x.2" + tmp)), x, steps(xLinks[:10], xGone[:4], xGone[5:]), api.EISDIR},
		{"new, at first", blocked(mkdir(etc + "x" + tmp)), x, nil, api.EISDIR},
		{"set, at the database", blocked(mkdir(newAt)), set("vi", "/opt/a"), steps(aLinks, bLinks), api.EISDIR},
		{"set, at a slave", blocked(mkdir("/man/vi.1" + tmp)), set("vi", "/opt/a"), steps(aLinks[:4], bLinks[:2], bLinks[3:4], bLinks[6:]), api.EISDIR},
		{"set, at first", blocked(mkdir(etc + "vi" + tmp)), set("vi", "/opt/a"), nil, api.EISDIR},
		{"remove, at the database", blocked(mkdir(newAt)), remove("vi", "/opt/b"), steps(aLinks, bLinks), api.EISDIR},
		{"set to the best, at the database", blocked(mkdir(newAt)), set("vi", "/opt/b"), nil, api.EISDIR},
		// The alternative as it was knows nothing of a slave that is new.
		{"a new slave, at the database", blocked(mkdir(newAt)), more, steps(led("/man/new", "new", "/opt/b.new"), one("sync")), api.EISDIR},
		{"all, at the database", blocked(unlink(altsAt + "vi")), all("vi"), nil, api.ENOENT},
		{"all, of a directory", blocked(unlink(altsAt+"vi"), mkdir(altsAt+"vi")), all("vi"), nil, api.EISDIR},
	} {
		traced(t, c.what, c.on, alone(call(t, st, c.act)), c.want, c.e)
	}
}

// P18.3

func TestResolve(t *testing.T) {
	d := laid(t)
	do(t, d,
		symlink("/bin/x", etc+"x"), symlink(etc+"x", "/opt/a"),
		symlink("/bin/again", etc+"x"),
		symlink("/bin/loop", etc+"loop"), symlink(etc+"loop", etc+"loop"),
		symlink("/bin/none", etc+"none"),
		symlink("/bin/file", etc+"file"), create(etc+"file"),
		symlink("/bin/dir", etc+"dir"), mkdir(etc+"dir"),
		symlink("/bin/deep", etc+"dir/deep"), symlink(etc+"dir/deep", "/deep"),
		symlink("/bin/empty", etc),
		symlink("/bin/etc", "/etc/alternatives"),
		symlink("/bin/other", "/opt/l"),
		symlink("/bin/near", "/etc/alternativesx"), symlink("/etc/alternativesx", "/opt/a"),
		symlink("/bin/up", etc+"../x"), symlink("/etc/x", "/opt/a"),
		symlink("/bin/relative", "x"), symlink("/bin/twice", "/bin/x"),
		symlink("/opt/bin", "/bin"),
		create("/bin/text"),
	)
	for link, want := range map[string]string{
		"/bin/x": "/opt/a", "/bin/again": "/opt/a", "/bin/loop": etc + "loop", "/bin/deep": "/deep", etc + "loop": etc + "loop",
		"/bin/none": "", "/bin/file": "", "/bin/dir": "", "/bin/empty": "", "/bin/etc": "", "/bin/other": "", "/bin/near": "", "/bin/up": "",
		"/bin/relative": "", "/bin/twice": "", "/opt/bin/x": "", "/bin/text": "", "/bin": "", "/": "", "": "", "bin/x": "", "/bin/x/": "", "/bin/nothing": "", etc + "x": "",
	} {
		if got := alter.Resolve(d, link); got != want {
			t.Errorf("Resolve(%q): %q, want %q", link, got, want)
		}
	}
	d.Fuse(0)
	d.Sync("/")
	for _, d := range []*disk.Disk{nil, new(disk.Disk), d} {
		if got := alter.Resolve(d, "/bin/x"); got != "" {
			t.Errorf("Resolve without a disk or power: %q", got)
		}
	}
}

// P18.4

// TestResolves does Fix wherever something may be at a link, at its admin link
// and where they are placed.
func TestResolves(t *testing.T) {
	kinds := []func(p, target string) []api.Op{
		func(string, string) []api.Op { return nil },
		func(p, target string) []api.Op { return []api.Op{symlink(p, target)} },
		func(p, target string) []api.Op { return []api.Op{symlink(p, "/other")} },
		func(p, target string) []api.Op { return []api.Op{create(p)} },
		func(p, target string) []api.Op { return []api.Op{mkdir(p)} },
	}
	tmpKinds := append(slices.Clone(kinds[:3]), kinds[3])
	seen := map[bool]int{}
	for i := range 5 * 5 * 4 * 4 * 3 {
		link := []string{"/bin/x", "/no/x", "/opt/a/x"}[i%3]
		slave := api.Slave{Name: "s", Link: "/man/s"}
		x := api.Alt{Name: "x", Link: link, Cur: "/opt/a", Slaves: []api.Slave{slave}, Choices: []api.Choice{{Path: "/opt/a", Slaves: []string{""}}}}
		var l []api.Op
		linkKind, adminKind := i/3%5, i/15%5
		if link == "/bin/x" {
			l = append(l, kinds[linkKind](link, etc+"x")...)
			l = append(l, tmpKinds[i/75%4](link+tmp, etc+"x")...)
		}
		l = append(l, kinds[adminKind](etc+"x", "/opt/a")...)
		l = append(l, tmpKinds[i/300%4](etc+"x"+tmp, "/opt/a")...)
		l = append(l, kinds[linkKind]("/man/s", etc+"s")...)
		l = append(l, kinds[adminKind](etc+"s", "/opt/s")...)
		d := on(t, l...)()
		must(t, alter.Fix(d, x))
		right := link == "/bin/x" && linkKind < 3 && adminKind < 3
		if got := alter.Resolve(d, link); (got == "/opt/a") != right {
			t.Errorf("%v: %s resolves to %q", l, link, got)
		}
		if text(d, "/man/s") == etc+"s" {
			t.Errorf("%v: a slave without a target is left", l)
		}
		seen[right]++
		steps := d.Steps()
		must(t, alter.Fix(d, x))
		if d.Steps() != steps || d.Pending() != 0 {
			t.Errorf("%v: a second time something is done", l)
		}
	}
	if seen[true] == 0 || seen[false] == 0 {
		t.Error(seen)
	}
}

func TestExample(t *testing.T) {
	d := laid(t)
	do(t, d, create("/a"))
	st, e := alter.Do(d, api.State{}, install("x", "/x", "/a", 0))
	must(t, e)
	holds(t, d, st)
	if text(d, "/x") != "/etc/alternatives/x" || text(d, etc+"x") != "/a" || alter.Resolve(d, "/x") != "/a" {
		t.Error(linksAt(d))
	}
}

// No disk, no power, and limits

func TestNoDiskNoPower(t *testing.T) {
	for _, d := range []*disk.Disk{nil, new(disk.Disk), filled(t, given(ed(), vi()))} {
		off := api.ENIL
		if d.On() {
			off = api.EOFF
			d.Fuse(0)
			d.Sync("/")
		}
		image, steps := d.Image(), d.Steps()
		for i, c := range []struct {
			act  api.Act
			want api.Errno
		}{
			{install("x", "/bin/x", "/opt/a", 1), api.ENOENT}, // nothing can be seen at its path
			{install("vi", "/bin/vi", "/opt/b", 9, "vi.3", "/man/vi.3", "/opt/b.3"), api.ENOENT},
			{remove("vi", "/opt/b"), off},
			{remove("vi", "/opt/a"), off},
			{remove("ed", "/opt/a"), off},
			{remove("ed", "/opt/b"), api.ENOENT},
			{set("vi", "/opt/a"), off},
			{set("x", "/opt/a"), api.ENOENT},
			{auto("vi"), off},
			{auto("x"), api.ENOENT},
			{all("vi"), off},
			{all("x"), api.ENOENT},
			{api.Act{Kind: api.COver}, api.EARG},
		} {
			if _, e := call(t, given(ed(), vi()), c.act)(d); e != c.want {
				t.Errorf("%d: %d, want %d", i, e, c.want)
			}
		}
		for i, c := range []struct {
			call func(*disk.Disk) api.Errno
			want api.Errno
		}{
			{point("/bin/x", "x", "/opt/a"), off},
			{fix(vi()), off},
			// No link can be seen that would go.
			{point("/bin/vi", "vi", ""), api.OK},
			{fix(manual(vi(), "")), api.OK},
			{gone(vi()), api.OK},
		} {
			if e := c.call(d); e != c.want {
				t.Errorf("link %d: %d, want %d", i, e, c.want)
			}
		}
		if d.On() || d.Steps() != steps || !slices.Equal(d.Image(), image) {
			t.Error("something was done")
		}
	}
}

func bytesOf(d *disk.Disk) int {
	n := 0
	for _, x := range d.Image() {
		n += len(x.Text)
	}
	return n
}

// A limit strikes at each step at which it can, and leaves the databases and the
// links of what was there as they were.
func TestLimits(t *testing.T) {
	for _, c := range commands() {
		st := given(c.l...)
		want := with(st, after(t, c.l, c.act))
		first := filled(t, st)
		count, size := len(first.Image()), bytesOf(first)
		try := func(limits api.Limits, e api.Errno) bool {
			d := filled(t, st)
			d.Bound(limits)
			_, f := call(t, st, c.act)(d)
			switch f {
			case api.OK:
				holds(t, d, want)
				leads(t, d, want.Alts)
				return true
			case e:
				holds(t, d, st)
				if _, e := d.Stat(newAt); e == api.OK {
					t.Errorf("%s with %v: something is left", c.what, limits)
				}
				d.Bound(api.Limits{})
				repaired(t, d, st)
			default:
				t.Fatalf("%s with %v: %d", c.what, limits, f)
			}
			return false
		}
		struck, fits := 0, 0
		for n := range 10 {
			if try(api.Limits{Files: count + n}, api.ENFILE) {
				fits++
			} else {
				struck++
			}
		}
		if fits == 0 || (struck == 0) != (len(c.want) == 0 || c.want[0][0] == '-') {
			t.Errorf("%s: limits of files struck %d times, of 10", c.what, struck)
		}
		struck, fits = 0, 0
		for n := range 40 {
			if try(api.Limits{Bytes: size + 10*n}, api.ENOSPC) {
				fits++
			} else {
				struck++
			}
		}
		if fits == 0 || (struck == 0) != (len(c.want) == 0 || c.want[0][0] == '-') {
			t.Errorf("%s: limits of bytes struck %d times, of 40", c.what, struck)
		}
	}
}

// The errors of links that can't be are told, but for those of their names.
func TestPointLimits(t *testing.T) {
	const x, link, target = etc + "x", "/bin/x", "/opt/a"
	plain := laid(t)
	count, size := len(plain.Image()), bytesOf(plain)
	for _, c := range []struct {
		limits api.Limits
		want   []string
		e      api.Errno
	}{
		{api.Limits{Files: count}, nil, api.ENFILE},
		{api.Limits{Files: count + 1}, placed(x, target), api.ENFILE},
		{api.Limits{Files: count + 2}, led(link, "x", target), api.OK},
		{api.Limits{Bytes: size + len(target) - 1}, nil, api.ENOSPC},
		{api.Limits{Bytes: size + len(target)}, placed(x, target), api.ENOSPC},
		{api.Limits{Bytes: size + len(target) + len(x) - 1}, placed(x, target), api.ENOSPC},
		{api.Limits{Bytes: size + len(target) + len(x)}, led(link, "x", target), api.OK},
		{api.Limits{Name: len("x" + tmp)}, led(link, "x", target), api.OK},
		{api.Limits{Name: len("x"+tmp) - 1}, nil, api.OK},
		{api.Limits{Name: 1}, nil, api.OK},
	} {
		make := func() *disk.Disk {
			d := laid(t)
			d.Bound(c.limits)
			return d
		}
		traced(t, fmt.Sprint(c.limits), make, point(link, "x", target), c.want, c.e)
	}
	// Of names too long for some links the others are placed.
	make := func() *disk.Disk {
		d := laid(t)
		d.Bound(api.Limits{Name: len("vi" + tmp)})
		return d
	}
	traced(t, "slaves' names too long", make, fix(manual(vi(), "/opt/a")), steps(led("/bin/vi", "vi", "/opt/a"), one("sync")), api.OK)
	// And a command is done without any.
	st := given()
	d := filled(t, st)
	d.Bound(api.Limits{Name: len("xyz")})
	got, e := call(t, st, install("xyz", "/bin/xyz", "/opt/a", 1))(d)
	must(t, e)
	holds(t, d, got)
	leads(t, d, nil)
	d = filled(t, st)
	d.Bound(api.Limits{Name: len("xyz")})
	if _, e := call(t, st, install("wxyz", "/bin/x", "/opt/a", 1))(d); e != api.ELONG {
		t.Error(e)
	}
	holds(t, d, st)
	leads(t, d, nil)
}

// P18.5

// Whatever is kept of what was pending and dirty, the alternatives are as they
// were or as they are to be, and each link leads to where it led, or is to lead;
// and what was answered as done lasts.
func TestAtOnce(t *testing.T) {
	for _, c := range commands() {
		st := given(c.l...)
		want := with(st, after(t, c.l, c.act))
		d := filled(t, st)
		old := linksAt(d)
		must(t, alone(call(t, st, c.act))(d))
		links := linksAt(d)
		before, behind := 0, 0
		try := func(fuse, keep, cut int) (pending, dirty int) {
			d := filled(t, st)
			if fuse%2 > 0 {
				do(t, d, create(newAt), create(etc+c.act.Name+tmp))
			}
			d.Fuse(fuse)
			got, e := call(t, st, c.act)(d)
			what := fmt.Sprintf("%s with %d steps, %d kept, %d of a text", c.what, fuse, keep, cut)
			if e == api.OK && !same(got, want) || e != api.OK && e != api.EOFF {
				t.Fatalf("%s: %d %s", what, e, show(got))
			}
			pending, dirty = d.Pending(), len(d.Dirty())
			d.Crash(keep, []int{cut, cut, cut})
			now, f := store.Load(d)
			switch {
			case f == api.OK && same(now, want) && (e == api.OK || !same(want, st)):
				behind++
			case f == api.OK && same(now, st) && e != api.OK:
				before++
			default:
				t.Fatalf("%s: %d %s", what, f, show(now))
			}
			between(t, what, linksAt(d), old, links)
			repaired(t, d, now)
			return pending, dirty
		}
		for fuse := range len(c.want) + 3 {
			pending, _ := try(fuse, 0, 0)
			for keep := range pending {
				if _, dirty := try(fuse, keep+1, 0); dirty > 0 {
					try(fuse, keep+1, 7)
					try(fuse, keep+1, -1)
				}
			}
		}
		if before == 0 && len(c.want) > 0 || behind == 0 {
			t.Errorf("%s: %d times as before, %d as after", c.what, before, behind)
		}
	}
}

// between sees that each link leads to where it led, or is to lead, and that
// those that stay are there.
func between(t *testing.T, what string, now, old, links map[string]string) {
	t.Helper()
	for p, target := range now {
		if !strings.HasSuffix(p, tmp) && target != old[p] && target != links[p] {
			t.Fatalf("%s: %s leads to %s", what, p, target)
		}
	}
	for p := range old {
		if now[p] == "" && links[p] != "" {
			t.Fatalf("%s: %s is not there", what, p)
		}
	}
}

// repaired sees that alternatives can be put in order behind a crash, and that
// a second time nothing is done.
func repaired(t *testing.T, d *disk.Disk, st api.State) {
	t.Helper()
	must(t, store.Clean(d))
	steps := 0
	for range 2 {
		steps = d.Steps()
		for _, x := range st.Alts {
			must(t, alter.Fix(d, x))
		}
		for _, x := range st.Alts {
			for _, s := range append([]api.Slave{{Name: x.Name, Link: x.Link}}, x.Slaves...) {
				if got, want := alter.Resolve(d, s.Link), choose.Target(x, s.Name); got != want && !strings.HasPrefix(s.Link, "/no/") {
					t.Fatalf("%s leads to %q, want %q", s.Link, got, want)
				}
			}
		}
	}
	if d.Steps() != steps {
		t.Fatal("a second time something is done")
	}
	holds(t, d, st)
}

package repair_test

import (
	"fmt"
	"math/rand/v2"
	"reflect"
	"slices"
	"strings"
	"testing"

	"cellarer/alter"
	"cellarer/api"
	"cellarer/disk"
	"cellarer/engine"
	"cellarer/fire"
	"cellarer/place"
	"cellarer/repair"
	"cellarer/run"
	"cellarer/store"
)

const (
	home   = "/var/lib/dpkg/"
	newAt  = home + "updates/new"
	lockAt = home + "lock"
)

func dir(p string) api.File { return api.File{Path: p, Kind: api.KDir} }

func file(p, text string) api.File { return api.File{Path: p, Kind: api.KFile, Text: text} }

func link(p, text string) api.File { return api.File{Path: p, Kind: api.KLink, Text: text} }

// vi and ed are alternatives, of which the first one has a slave that nothing
// provides, and one that something does.
func vi() api.Alt {
	return api.Alt{
		Name: "vi", Link: "/bin/vi", Cur: "/opt/b",
		Slaves:  []api.Slave{{Name: "vi.1", Link: "/man/vi.1"}, {Name: "vi.3", Link: "/man/vi.3"}},
		Choices: []api.Choice{{Path: "/opt/a", Prio: 5, Slaves: []string{"/opt/a.1", ""}}, {Path: "/opt/b", Prio: 9, Slaves: []string{"", "/opt/b.3"}}},
	}
}

func ed() api.Alt {
	return api.Alt{Name: "ed", Link: "/bin/ed", Cur: "/opt/a", Choices: []api.Choice{{Path: "/opt/a"}}}
}

func must(t *testing.T, e api.Errno) {
	t.Helper()
	if e != api.OK {
		t.Fatal(e)
	}
}

// world is what is on a disk.
type world struct {
	alts []api.Alt
	on   []api.File
	gone []string // what is taken away again
}

// state is the databases of a world: something stands in each.
func (w world) state() api.State {
	return api.State{
		Records:   []api.Record{{Name: "a", Version: "1", State: api.SPending, Pending: []string{"t"}}},
		Diverts:   []api.Divert{{Path: "/e", To: "/f"}},
		Overs:     []api.Over{{Path: "/e"}},
		Alts:      w.alts,
		Interests: []api.Interest{{Trigger: "t", Package: "a"}},
		Fired:     []api.Fired{{Trigger: "u"}},
		Lists:     []api.List{{Name: "a", Paths: []string{"/e"}}},
	}
}

func (w world) disk(t *testing.T) *disk.Disk {
	t.Helper()
	d, st := disk.New(api.Limits{}), w.state()
	must(t, store.Format(d))
	must(t, store.Records(d, st.Records))
	must(t, store.Diverts(d, st.Diverts))
	must(t, store.Overs(d, st.Overs))
	must(t, store.Interests(d, st.Interests))
	must(t, store.Fired(d, st.Fired))
	must(t, store.List(d, st.Lists[0]))
	for _, x := range w.alts {
		must(t, store.Alt(d, x))
	}
	for _, p := range []string{"/bin", "/man"} {
		put(t, d, dir(p))
	}
	for _, f := range w.on {
		put(t, d, f)
	}
	for _, p := range w.gone {
		if d.Do(api.Op{Kind: api.OUnlink, Path: p}) != api.OK {
			must(t, d.Do(api.Op{Kind: api.ORmdir, Path: p}))
		}
	}
	must(t, d.Sync("/"))
	return d
}

// put puts a file on a disk, also in the place of another one.
func put(t *testing.T, d *disk.Disk, f api.File) {
	t.Helper()
	d.Do(api.Op{Kind: api.OUnlink, Path: f.Path})
	switch f.Kind {
	case api.KDir:
		must(t, d.Do(api.Op{Kind: api.OMkdir, Path: f.Path}))
	case api.KLink:
		must(t, d.Do(api.Op{Kind: api.OSymlink, Path: f.Path, Text: f.Text}))
	default:
		must(t, d.Do(api.Op{Kind: api.OCreate, Path: f.Path}))
		must(t, d.Do(api.Op{Kind: api.OWrite, Path: f.Path, Text: f.Text}))
		must(t, d.Sync(f.Path))
	}
}

// look is all that a disk tells.
func look(d *disk.Disk) string {
	return fmt.Sprint(d.Image(), d.Kept(), d.Dirty(), d.Steps(), d.Pending(), d.On())
}

func loads(t *testing.T, d *disk.Disk) api.State {
	t.Helper()
	st, e := store.Load(d)
	must(t, e)
	return st
}

// same tells whether two states are printed alike.
func same(a, b api.State) bool { return fmt.Sprintf("%+v", a) == fmt.Sprintf("%+v", b) }

func paths(d *disk.Disk) []string {
	var out []string
	for _, x := range d.Image() {
		out = append(out, strings.TrimSuffix(x.Path+" "+x.Text, " "))
	}
	return out
}

// links are those of both alternatives as they are to be.
func links() []api.File {
	return []api.File{
		link("/etc/alternatives/ed", "/opt/a"), link("/bin/ed", "/etc/alternatives/ed"),
		link("/etc/alternatives/vi", "/opt/b"), link("/bin/vi", "/etc/alternatives/vi"),
		link("/etc/alternatives/vi.3", "/opt/b.3"), link("/man/vi.3", "/etc/alternatives/vi.3"),
	}
}

// trial is a world that is repaired, and what there is to do.
type trial struct {
	what string
	w    world
	do   func(d *disk.Disk) api.Errno
	e    api.Errno
}

// all is each step of Repair that there may be.
func all(d *disk.Disk) api.Errno {
	if e := store.Clean(d); e != api.OK {
		return e
	}
	if e := place.Sweep(d); e != api.OK {
		return e
	}
	if e := alter.Fix(d, ed()); e != api.OK {
		return e
	}
	return alter.Fix(d, vi())
}

func nothing(*disk.Disk) api.Errno { return api.OK }

func fix(x api.Alt) func(d *disk.Disk) api.Errno {
	return func(d *disk.Disk) api.Errno { return alter.Fix(d, x) }
}

func trials() []trial {
	both := []api.Alt{ed(), vi()}
	left := []api.File{file(lockAt, ""), file(newAt, "half of a te"), file("/bin/x.dpkg-new", "x"), file("/bin/y", "y"), file("/bin/y.dpkg-tmp", "was y"), file("/man/z.dpkg-tmp", "was z"), link("/bin/vi.dpkg-tmp", "/etc/alternatives/vi")}
	return []trial{
		{"a disk that is in order", world{}, nothing, api.OK},
		{"alternatives that are in order", world{both, links(), nil}, nothing, api.OK},
		{"what is not odd", world{both, append(links(), file("/bin/x.dpkg-dist", ""), dir("/x.dpkg-new"), dir("/y.dpkg-tmp"), file(home+"updates/old", ""), file("/new", ""), file("/lock", "")), nil}, nothing, api.OK},
		{"a lock", world{nil, []api.File{file(lockAt, "")}, nil}, store.Clean, api.OK},
		{"a new database", world{nil, []api.File{file(newAt, "abc")}, nil}, store.Clean, api.OK},
		{"files that were being placed", world{nil, left[2:6], nil}, place.Sweep, api.OK},
		{"in directories that end so", world{nil, []api.File{dir("/x.dpkg-new"), file("/x.dpkg-new/y.dpkg-new", ""), dir("/x.dpkg-tmp"), file("/x.dpkg-tmp/y.dpkg-tmp", "")}, nil}, place.Sweep, api.OK},
		{"links that are lacking", world{alts: []api.Alt{ed()}}, fix(ed()), api.OK},
		{"links that are lacking, of slaves", world{[]api.Alt{vi()}, links()[2:4], nil}, fix(vi()), api.OK},
		{"links that lead elsewhere", world{both, append(links(), link("/etc/alternatives/vi", "/opt/a"), link("/bin/vi", "/x")), nil}, fix(vi()), api.OK},
		{"a link that should lead nowhere", world{both, append(links(), link("/etc/alternatives/vi.1", "/opt/a.1"), link("/man/vi.1", "/etc/alternatives/vi.1")), nil}, fix(vi()), api.OK},
		{"a file in the place of a link", world{both, append(links(), file("/bin/vi", "mine")), nil}, nothing, api.OK},
		{"a link without a directory", world{both, links()[:4], []string{"/man"}}, fix(vi()), api.OK},
		{"all at once", world{both, left, nil}, all, api.OK},
		{"a link that was being placed, swept into its place", world{[]api.Alt{ed()}, append(links()[:1], link("/bin/ed.dpkg-tmp", "/etc/alternatives/ed")), nil}, place.Sweep, api.OK},
		{"a directory where a database is to be", world{both, []api.File{dir(newAt), file(lockAt, ""), file("/bin/x.dpkg-new", "")}, nil}, store.Clean, api.EISDIR},
		{"a lock that is a directory", world{both, append(left[1:], dir(lockAt)), nil}, store.Clean, api.EISDIR},
		{"a directory in the way of a link", world{both, append(left, dir("/bin/ed.dpkg-tmp")), nil}, all, api.EISDIR},
	}
}

// held holds Repair to what is to be done on a twin disk.
func (c trial) held(t *testing.T, how string, ready func(d *disk.Disk)) (api.Errno, *disk.Disk) {
	t.Helper()
	twin, d := c.w.disk(t), c.w.disk(t)
	ready(twin)
	ready(d)
	want := c.w.state()
	_, wantError := twin.Stat("/")
	if wantError == api.OK {
		wantError = c.do(twin)
	}
	if wantError != api.OK {
		want = api.State{}
	}
	got, e := repair.Repair(d)
	if e != wantError || !same(got, want) || look(d) != look(twin) {
		t.Fatalf("%s %s: %d %v\n%s\nwant %d %v\n%s", c.what, how, e, got, look(d), wantError, want, look(twin))
	}
	return e, d
}

// P26.1

func TestRepair(t *testing.T) {
	t.Parallel()
	for _, c := range trials() {
		e, _ := c.held(t, "", func(*disk.Disk) {})
		if e != c.e {
			t.Errorf("%s: %d, want %d", c.what, e, c.e)
		}
		for n := 0; ; n++ {
			if _, d := c.held(t, fmt.Sprintf("with %d steps", n), func(d *disk.Disk) { d.Fuse(n) }); d.On() {
				break
			}
		}
		struck := map[string]bool{}
		for _, limits := range bounds(c.w.disk(t)) {
			e, d := c.held(t, fmt.Sprintf("with %v", limits), func(d *disk.Disk) { d.Bound(limits) })
			// Limits that strike at one step do alike.
			at := fmt.Sprint(e, d.Steps())
			if e == c.e || struck[at] {
				continue
			}
			struck[at] = true
			for n := range d.Steps() + 1 {
				c.held(t, fmt.Sprintf("with %v and %d steps", limits, n), func(d *disk.Disk) { d.Bound(limits); d.Fuse(n) })
			}
		}
	}
}

// bounds are limits of all kinds that a disk just keeps, or may not keep soon.
func bounds(d *disk.Disk) []api.Limits {
	size, files := 0, len(d.Image())
	for _, x := range d.Image() {
		size += len(x.Text)
	}
	out := []api.Limits{{Bytes: 1}, {Files: 1}}
	for n := range 10 {
		out = append(out, api.Limits{Bytes: size + 7*n}, api.Limits{Name: 2 + n}, api.Limits{Files: files + n})
	}
	return out
}

// What all that was left comes to.
func TestRepaired(t *testing.T) {
	t.Parallel()
	c := trials()[13]
	before := paths(c.w.disk(t))
	d := c.w.disk(t)
	got, e := repair.Repair(d)
	must(t, e)
	if !same(got, c.w.state()) || !same(loads(t, d), got) {
		t.Errorf("%v", got)
	}
	want := slices.DeleteFunc(before, func(s string) bool {
		return strings.HasPrefix(s, lockAt) || strings.HasPrefix(s, newAt) || strings.Contains(s, ".dpkg-")
	})
	for _, f := range append(links(), file("/man/z", "was z")) {
		want = append(want, f.Path+" "+f.Text)
	}
	slices.Sort(want)
	if got := paths(d); !slices.Equal(got, want) {
		t.Errorf("%q\nwant\n%q", got, want)
	}
	if d.Pending() > 0 || len(d.Dirty()) > 0 {
		t.Errorf("%d operations, and the files %q, may be lost", d.Pending(), d.Dirty())
	}
}

// Alternatives are put in order one after the other: an error ends it ahead of
// those that follow.
func TestRepairOrder(t *testing.T) {
	t.Parallel()
	w := world{alts: []api.Alt{ed(), vi()}, on: []api.File{dir("/bin/ed.dpkg-tmp")}}
	d := w.disk(t)
	if st, e := repair.Repair(d); e != api.EISDIR || !same(st, api.State{}) {
		t.Errorf("%d %v", e, st)
	}
	if alter.Resolve(d, "/bin/vi") != "" {
		t.Error("vi was put in order behind an error of ed")
	}
	w.on = []api.File{dir("/bin/vi.dpkg-tmp")}
	d = w.disk(t)
	if st, e := repair.Repair(d); e != api.EISDIR || !same(st, api.State{}) || alter.Resolve(d, "/bin/ed") != "/opt/a" {
		t.Errorf("%d %v", e, st)
	}
}

// If a database can't be read, nothing is done.
func TestRepairCorrupt(t *testing.T) {
	t.Parallel()
	left := []api.File{file(lockAt, ""), file(newAt, "x"), file("/bin/x.dpkg-new", ""), file("/bin/y.dpkg-tmp", "")}
	for _, p := range []string{"status", "diversions", "statoverride", "triggers/File", "triggers/Unincorp", "alternatives/ed", "info/a.list", "info/none"} {
		for _, w := range []world{
			{[]api.Alt{ed()}, append(left, file(home+p, "x")), nil},
			{[]api.Alt{ed()}, append(left, file(home+p, "")), []string{home + p}},
			{[]api.Alt{ed()}, append(left, link(home+p, "/x")), nil},
		} {
			d := w.disk(t)
			if _, e := store.Load(d); e == api.OK {
				// A list, or an alternative, that is not there is none.
				continue
			}
			before := look(d)
			if st, e := repair.Repair(d); e != api.ECORRUPT || !same(st, api.State{}) || look(d) != before {
				t.Errorf("%s: %d %v", p, e, st)
			}
		}
	}
}

func TestRepairWithout(t *testing.T) {
	t.Parallel()
	for _, c := range trials() {
		off := c.w.disk(t)
		off.Fuse(0)
		off.Sync("/")
		before := look(off)
		if st, e := repair.Repair(off); e != api.EOFF || !same(st, api.State{}) || look(off) != before {
			t.Errorf("%s: %d %v", c.what, e, st)
		}
	}
	for _, d := range []*disk.Disk{nil, {}} {
		if st, e := repair.Repair(d); e != api.ENIL || !same(st, api.State{}) {
			t.Errorf("%d %v", e, st)
		}
	}
}

// P26.2

func TestOdd(t *testing.T) {
	t.Parallel()
	for _, c := range []struct {
		what string
		on   []api.File
		want []string
	}{
		{"a disk that is in order", nil, nil},
		{"a lock", []api.File{file(lockAt, "")}, []string{lockAt}},
		{"a new database", []api.File{file(newAt, "")}, []string{newAt}},
		{"both, of any kind", []api.File{dir(newAt), link(lockAt, "x")}, []string{lockAt, newAt}},
		{"a directory as a lock", []api.File{dir(lockAt)}, []string{lockAt}},
		{"files and links", []api.File{file("/a.dpkg-new", ""), link("/b.dpkg-new", "x"), file("/c.dpkg-tmp", "x"), link("/d.dpkg-tmp", "x")}, []string{"/a.dpkg-new", "/b.dpkg-new", "/c.dpkg-tmp", "/d.dpkg-tmp"}},
		{"directories", []api.File{dir("/a.dpkg-new"), dir("/b.dpkg-tmp"), file("/a.dpkg-new/x", "")}, nil},
		{"in directories", []api.File{dir("/a.dpkg-new"), file("/a.dpkg-new/.dpkg-new", ""), dir("/a.dpkg-new/b"), file("/a.dpkg-new/b/c.dpkg-tmp", "")}, []string{"/a.dpkg-new/.dpkg-new", "/a.dpkg-new/b/c.dpkg-tmp"}},
		{"other endings", []api.File{file("/a.dpkg-dist", ""), file("/a.dpkg-newx", ""), file("/adpkg-tmp", ""), file("/a.dpkg-new.x", ""), file("/a.dpkg-ne", ""), file("/a.DPKG-NEW", ""), file("/lock", ""), file(home+"lock.x", ""), file(home+"new", ""), file(home+"updates/new.x", ""), file(home+"updates/lock", "")}, nil},
		{"rising", []api.File{file("/z.dpkg-new", ""), file("/bin/z.dpkg-tmp", ""), file("/bin.dpkg-tmp", ""), file(newAt, ""), file(lockAt, ""), file(home+"info/x.dpkg-new", "")},
			[]string{"/bin.dpkg-tmp", "/bin/z.dpkg-tmp", home + "info/x.dpkg-new", lockAt, newAt, "/z.dpkg-new"}},
		{"several endings", []api.File{file("/.dpkg-new", ""), file("/a.dpkg-tmp.dpkg-new", ""), file("/a.dpkg-new.dpkg-tmp", "")}, []string{"/.dpkg-new", "/a.dpkg-new.dpkg-tmp", "/a.dpkg-tmp.dpkg-new"}},
	} {
		d := world{on: c.on}.disk(t)
		before := look(d)
		if got := repair.Odd(d); !slices.Equal(got, c.want) || look(d) != before {
			t.Errorf("%s: %q, want %q", c.what, got, c.want)
		}
		// It stands on the disk, whether there is power or not.
		d.Fuse(0)
		d.Sync("/")
		if got := repair.Odd(d); !slices.Equal(got, c.want) {
			t.Errorf("%s, without power: %q, want %q", c.what, got, c.want)
		}
	}
	for _, d := range []*disk.Disk{nil, {}, disk.New(api.Limits{})} {
		if got := repair.Odd(d); len(got) > 0 {
			t.Errorf("%q", got)
		}
	}
}

// P26.3, P26.4

// settled sees that what a disk has is what it had, and that there is nothing to
// repair any more.
func settled(t *testing.T, what string, d *disk.Disk, st api.State) {
	t.Helper()
	if now := loads(t, d); !same(now, st) {
		t.Fatalf("%s: %v, was %v", what, now, st)
	}
	before := look(d)
	if again, e := repair.Repair(d); e != api.OK || !same(again, st) || look(d) != before {
		t.Fatalf("%s: again %d %v, was %v", what, e, again, st)
	}
	if odd := repair.Odd(d); len(odd) > 0 {
		t.Fatalf("%s: %q is left", what, odd)
	}
	if d.Pending() > 0 {
		t.Fatalf("%s: %d operations may be lost", what, d.Pending())
	}
}

func TestRepairAgain(t *testing.T) {
	t.Parallel()
	for _, c := range trials() {
		if d := c.w.disk(t); c.e == api.OK {
			st, e := repair.Repair(d)
			must(t, e)
			settled(t, c.what, d, st)
		}
	}
}

// P26.5

// Whatever crash happens within Repair, and within the one that follows it: what
// is loaded is what was loaded before.
func TestRepairCrashes(t *testing.T) {
	t.Parallel()
	crash := func(d *disk.Disk, n, keep, cut int) bool {
		d.Fuse(n)
		repair.Repair(d)
		on := d.On()
		d.Crash(keep, []int{cut, cut})
		return on
	}
	for _, c := range trials() {
		if c.e != api.OK {
			continue
		}
		end := c.w.disk(t)
		st, e := repair.Repair(end)
		must(t, e)
		for n, on := 0, false; !on; n++ {
			d := c.w.disk(t)
			d.Fuse(n)
			repair.Repair(d)
			for keep := range d.Pending() + 1 {
				for _, again := range []int{-1, 0, 2, 7} {
					d := c.w.disk(t)
					on = crash(d, n, keep, n)
					if again >= 0 {
						crash(d, again, keep+again, n)
					}
					what := fmt.Sprintf("%s with %d steps, %d kept, %d steps", c.what, n, keep, again)
					if now := loads(t, d); !same(now, st) {
						t.Fatalf("%s: %v, was %v", what, now, st)
					}
					if now, e := repair.Repair(d); e != api.OK || !same(now, st) {
						t.Fatalf("%s: %d %v, was %v", what, e, now, st)
					}
					settled(t, what, d, st)
					if got, want := paths(d), paths(end); !slices.Equal(got, want) {
						t.Fatalf("%s: %q, want %q", what, got, want)
					}
				}
			}
		}
	}
}

// What crashes within calls of other layers leave, is put in order: nothing odd is
// left, what was loaded stays, and the alternatives lead to what is taken.
func TestRepairOthers(t *testing.T) {
	t.Parallel()
	install := func(name, p string, prio int) api.Act {
		return api.Act{Kind: api.CInstall, Name: name, To: "/bin/" + name, Path: p, Prio: prio, Slaves: []api.Slave{{Name: name + ".1", Link: "/man/" + name}}, Paths: []string{p + ".1"}}
	}
	x := api.Package{Name: "x", Version: "1", Files: []api.File{dir("/d"), file("/d/f", "new f"), link("/d/l", "new"), file("/e", "new e")}}
	x.Files[3].Conf = true
	x.Scripts[api.PostInst] = []api.Act{install("ed", "/man", 9), {Kind: api.CFire, Name: "t"}}
	y := x
	y.Version, y.Files = "2", []api.File{file("/e", "newer e"), file("/g", "g")}
	acts := []func(d *disk.Disk, st api.State){
		func(d *disk.Disk, st api.State) { run.Do(d, st, install("ed", "/bin", 5), "") },
		func(d *disk.Disk, st api.State) { run.Do(d, st, install("vi", "/bin", 1), "") },
		func(d *disk.Disk, st api.State) { run.Do(d, st, api.Act{Kind: api.CAll, Name: "ed"}, "") },
		func(d *disk.Disk, st api.State) { run.Do(d, st, api.Act{Kind: api.CSet, Name: "ed", Path: "/man"}, "") },
		func(d *disk.Disk, st api.State) { engine.Unpack(d, st, x, nil) },
		func(d *disk.Disk, st api.State) { engine.Unpack(d, st, y, nil) },
		func(d *disk.Disk, st api.State) { engine.Configure(d, st, "x", []api.Package{x, y}, nil) },
		func(d *disk.Disk, st api.State) { engine.Remove(d, st, "x", []api.Package{x, y}, nil) },
		func(d *disk.Disk, st api.State) { fire.Process(d, st, []api.Package{x, y}, nil) },
		func(d *disk.Disk, st api.State) { store.Lock(d) },
	}
	left := 0
	for seed := range uint64(80) {
		r := rand.New(rand.NewPCG(26, seed))
		d := world{}.disk(t)
		for range 40 {
			st := loads(t, d)
			d.Fuse(r.IntN(60))
			acts[r.IntN(len(acts))](d, st)
			if d.On() {
				d.Sync("/")
			}
			if r.IntN(3) > 0 || !d.On() {
				d.Crash(int(r.Uint64()), []int{r.IntN(9), r.IntN(9)})
			}
			d.Fuse(-1)
			before := loads(t, d)
			left += len(repair.Odd(d))
			st, e := repair.Repair(d)
			must(t, e)
			if !same(st, before) {
				t.Fatalf("%v, was %v", st, before)
			}
			settled(t, fmt.Sprint(seed), d, st)
			for _, x := range st.Alts {
				if got := alter.Resolve(d, x.Link); got != x.Cur {
					t.Fatalf("%s leads to %q, not to %s", x.Link, got, x.Cur)
				}
			}
		}
	}
	if left < 300 {
		t.Errorf("%d things were left", left)
	}
}

// What is answered shares nothing that a later call would change.
func TestRepairShares(t *testing.T) {
	t.Parallel()
	d := world{alts: []api.Alt{ed()}}.disk(t)
	st, e := repair.Repair(d)
	must(t, e)
	want := loads(t, d)
	repair.Repair(d)
	if !reflect.DeepEqual(st, want) {
		t.Errorf("%v, want %v", st, want)
	}
}

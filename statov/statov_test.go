package statov_test

import (
	"fmt"
	"slices"
	"strings"
	"testing"

	"cellarer/api"
	"cellarer/disk"
	"cellarer/overs"
	"cellarer/statov"
	"cellarer/store"
)

const (
	oversAt = "/var/lib/dpkg/statoverride"
	newAt   = "/var/lib/dpkg/updates/new"

	writes = 5 // steps of a call that changes no file's meta
)

var (
	first = api.Meta{Mode: 0o4755, Uid: 1, Gid: 2} // of the file /a
	other = api.Meta{Mode: 0o640, Uid: 3, Gid: api.MaxId}
)

// given is the state of all tests. Behind the end of its overrides is
// something that nobody may touch.
func given() api.State {
	l := []api.Over{{Path: "/b", Meta: other}, {Path: "/had", Meta: api.Meta{Mode: 0o400}}, {Path: "spare"}}
	return api.State{
		Records:   []api.Record{{Name: "a", Version: "1", State: api.SInstalled}},
		Diverts:   []api.Divert{{Path: "/a", To: "/c"}},
		Overs:     l[:2],
		Alts:      []api.Alt{{Name: "vi", Link: "/vi", Cur: "/bin/vi", Choices: []api.Choice{{Path: "/bin/vi", Prio: 5}}}},
		Interests: []api.Interest{{Trigger: "/a", Package: "b"}},
		Fired:     []api.Fired{{Trigger: "/a", By: []string{"x"}}},
		Lists:     []api.List{{Name: "x", Paths: []string{"/a"}}},
	}
}

// same takes lists that are nil and empty as equal.
func same(a, b api.State) bool { return fmt.Sprint(a) == fmt.Sprint(b) }

func with(st api.State, l ...api.Over) api.State {
	st.Overs = l
	return st
}

func must(t *testing.T, e api.Errno) {
	t.Helper()
	if e != api.OK {
		t.Fatal(e)
	}
}

// filled is a disk with a state, and files, of which nothing is pending.
func filled(t *testing.T, st api.State) *disk.Disk {
	t.Helper()
	d := disk.New(api.Limits{})
	must(t, store.Format(d))
	must(t, store.Records(d, st.Records))
	must(t, store.Diverts(d, st.Diverts))
	must(t, store.Overs(d, st.Overs))
	must(t, store.Interests(d, st.Interests))
	must(t, store.Fired(d, st.Fired))
	for _, x := range st.Alts {
		must(t, store.Alt(d, x))
	}
	for _, x := range st.Lists {
		must(t, store.List(d, x))
	}
	for _, x := range []api.Op{
		{Kind: api.OCreate, Path: "/a", Meta: first},
		{Kind: api.OWrite, Path: "/a", Text: "text"},
		{Kind: api.OCreate, Path: "/b", Meta: first},
		{Kind: api.OMkdir, Path: "/dir", Meta: first},
		{Kind: api.OCreate, Path: "/dir/f", Meta: first},
		{Kind: api.OSymlink, Path: "/l", Text: "/a", Meta: first},
		{Kind: api.OSymlink, Path: "/ldir", Text: "/dir", Meta: first},
	} {
		must(t, d.Do(x))
	}
	must(t, d.Sync("/a"))
	return d
}

func holds(t *testing.T, d *disk.Disk, want api.State) {
	t.Helper()
	if st, e := store.Load(d); !same(st, want) || e != api.OK {
		t.Fatalf("Load: %v %d, want %v", st, e, want)
	}
}

func there(d *disk.Disk, p string) bool {
	_, e := d.Stat(p)
	return e == api.OK
}

// files is what is there of files that are no databases: of each path all but
// its number.
func files(l []api.Entry) []api.Entry {
	var out []api.Entry
	for _, x := range l {
		if !strings.HasPrefix(x.Path, "/var/lib/dpkg/") {
			x.Node = 0
			out = append(out, x)
		}
	}
	return out
}

// applied is files of which one has another meta, if it is there.
func applied(l []api.Entry, p string, m api.Meta) []api.Entry {
	out := slices.Clone(l)
	for i, x := range out {
		if x.Path == p {
			out[i].Meta = m
		}
	}
	return out
}

// P16.1

// metas are metas beside first, and which steps make them of it.
var metas = []struct {
	m            api.Meta
	chmod, chown bool
}{
	{first, false, false},
	{api.Meta{Mode: 0o755, Uid: 1, Gid: 2}, true, false},
	{api.Meta{Mode: 0, Uid: 1, Gid: 2}, true, false},
	{api.Meta{Mode: 0o7777, Uid: 1, Gid: 2}, true, false},
	{api.Meta{Mode: 0o4755, Uid: 0, Gid: 2}, false, true},
	{api.Meta{Mode: 0o4755, Uid: 1, Gid: api.MaxId}, false, true},
	{api.Meta{Mode: 0o4755, Uid: 2, Gid: 1}, false, true},
	{api.Meta{Mode: 0o4755}, false, true},
	{api.Meta{Mode: 0o400, Uid: 1, Gid: 3}, true, true},
	{api.Meta{}, true, true},
	{other, true, true},
}

// stepsOf is how many steps give a file a meta.
func stepsOf(chmod, chown bool) int {
	n := 0
	if chmod {
		n++
	}
	if chown {
		n++
	}
	if n > 0 {
		n++
	}
	return n
}

func TestApply(t *testing.T) {
	for _, p := range []string{"/a", "/dir", "/dir/f"} {
		for _, c := range metas {
			want := stepsOf(c.chmod, c.chown)
			for fuse := range want + 1 {
				d := filled(t, given())
				image, steps := files(d.Image()), d.Steps()
				d.Fuse(fuse)
				e := statov.Apply(d, p, c.m)
				if (fuse == want) != (e == api.OK) || e != api.OK && e != api.EOFF || d.Steps()-steps != fuse {
					t.Errorf("Apply(%q, %v) with %d steps: %d, %d were done", p, c.m, fuse, e, d.Steps()-steps)
				}
				// First the mode, then the ids, and what was done is kept in the end.
				now := first
				if c.chmod && fuse > 0 {
					now.Mode = c.m.Mode
				}
				if c.chown && (fuse > 1 || fuse > 0 && !c.chmod) {
					now.Uid, now.Gid = c.m.Uid, c.m.Gid
				}
				if got := files(d.Image()); !slices.Equal(got, applied(image, p, now)) {
					t.Errorf("Apply(%q, %v) with %d steps: %v", p, c.m, fuse, got)
				}
				if e == api.OK && (d.Pending() != 0 || now != c.m) {
					t.Errorf("Apply(%q, %v): %d pending, %v", p, c.m, d.Pending(), now)
				}
			}
		}
	}
}

// A meta that can't be is refused, and nothing is done, unless there is no file
// that could get it.
func TestApplyWrong(t *testing.T) {
	for _, m := range []api.Meta{
		{Mode: 4096, Uid: 1, Gid: 2}, {Mode: -1, Uid: 1, Gid: 2}, {Mode: 0o4755, Uid: -1, Gid: 2}, {Mode: 0o4755, Uid: 1, Gid: api.MaxId + 1}, {Mode: 0, Uid: -1}, {Mode: 4096},
	} {
		d := filled(t, given())
		image, steps := d.Image(), d.Steps()
		if e := statov.Apply(d, "/a", m); e != api.EARG || d.Steps() != steps || !slices.Equal(d.Image(), image) {
			t.Errorf("Apply of %v: %d", m, e)
		}
		for _, p := range []string{"/l", "/none"} {
			must(t, statov.Apply(d, p, m))
		}
	}
}

func TestApplyNothing(t *testing.T) {
	d := filled(t, given())
	image, steps := d.Image(), d.Steps()
	for _, p := range []string{"/l", "/ldir", "/none", "/no/none", "/a/none", "/l/none", "/ldir/f", "", "a", "/a/", "/dir/../a"} {
		for _, c := range metas {
			must(t, statov.Apply(d, p, c.m))
		}
	}
	if d.Steps() != steps || !slices.Equal(d.Image(), image) {
		t.Error("something was done")
	}
	must(t, statov.Apply(d, "/", other))
	if x, _ := d.Stat("/"); x.Meta != other {
		t.Errorf("the root: %v", x)
	}
}

// P16.2

// attempt is a call, and what it is to do: an error with which nothing is
// done, or overrides, and a meta for a path.
type attempt struct {
	call  func(d *disk.Disk, st api.State) (api.State, api.Errno)
	want  api.Errno
	after []api.Over
	meta  api.Over // of a file that gets it; empty: of none
	steps int
}

// try holds a call to what it is to do with a state on a disk.
func (a attempt) try(t *testing.T, what string, d *disk.Disk, st api.State) {
	t.Helper()
	want, image, steps := st, applied(files(d.Image()), a.meta.Path, a.meta.Meta), d.Steps()
	if a.want == api.OK {
		want = with(st, a.after...)
	}
	text := fmt.Sprint(st, st.Overs[:cap(st.Overs)])
	got, e := a.call(d, st)
	if e != a.want || !same(got, want) {
		t.Errorf("%s: %v %d, want %v %d", what, got, e, want, a.want)
	}
	if fmt.Sprint(st, st.Overs[:cap(st.Overs)]) != text {
		t.Errorf("%s changed what it was given: %v", what, st)
	}
	if n := d.Steps() - steps; n != a.steps || d.Pending() != 0 {
		t.Errorf("%s: %d steps, %d pending, want %d", what, n, d.Pending(), a.steps)
	}
	if got := files(d.Image()); !slices.Equal(got, image) {
		t.Errorf("%s: files are %v, want %v", what, got, image)
	}
	holds(t, d, want)
	d.Crash(0, nil)
	holds(t, d, want)
	if got := files(d.Image()); !slices.Equal(got, image) {
		t.Errorf("%s: after a crash files are %v, want %v", what, got, image)
	}
}

func add(x api.Over, force, update bool) func(*disk.Disk, api.State) (api.State, api.Errno) {
	return func(d *disk.Disk, st api.State) (api.State, api.Errno) {
		return statov.Add(d, st, x, force, update)
	}
}

func remove(p string) func(*disk.Disk, api.State) (api.State, api.Errno) {
	return func(d *disk.Disk, st api.State) (api.State, api.Errno) { return statov.Remove(d, st, p) }
}

func TestAdd(t *testing.T) {
	for _, c := range []struct {
		path string
		meta api.Meta
		had  bool // in the state already
		file bool // a file that gets metas
	}{
		{"/a", other, false, true},
		{"/a", first, false, true},
		{"/a", api.Meta{Mode: 256, Uid: 1, Gid: 2}, false, true},
		{"/a", api.Meta{Mode: 0o4755, Uid: 1}, false, true},
		{"/b", other, true, true}, // the very same one
		{"/b", first, true, true},
		{"/b", api.Meta{}, true, true},
		{"/b", api.Meta{Mode: 0o7777, Uid: api.MaxId, Gid: api.MaxId}, true, true},
		{"/had", first, true, false},
		{"/dir", other, false, true},
		{"/dir/f", other, false, true},
		{"/l", other, false, false},
		{"/none", other, false, false},
		{"/no/none", other, false, false},
		{"/a/none", other, false, false},
		{"/zz", api.Meta{}, false, false},
	} {
		x := api.Over{Path: c.path, Meta: c.meta}
		for i := range 4 {
			force, update := i%2 > 0, i > 1
			st := given()
			a := attempt{call: add(x, force, update), after: overs.Put(st.Overs, x), steps: writes}
			if c.file && update {
				a.meta = x
				owners := c.meta.Uid != first.Uid || c.meta.Gid != first.Gid
				a.steps += stepsOf(c.meta.Mode != first.Mode, owners)
			}
			if c.had && !force {
				a = attempt{call: a.call, want: api.EEXIST}
			}
			a.try(t, fmt.Sprintf("Add(%v, %v, %v)", x, force, update), filled(t, st), st)
		}
	}
	// The root too may have one.
	st, x := given(), api.Over{Path: "/", Meta: other}
	attempt{add(x, false, true), api.OK, overs.Put(st.Overs, x), x, writes + 3}.try(t, "of the root", filled(t, st), st)
}

// Not right goes ahead of all else.
func TestAddWrong(t *testing.T) {
	for _, x := range []api.Over{
		{Path: ""}, {Path: "a"}, {Path: "/a/"}, {Path: "/b/../a"}, {Path: "/a b"}, {Path: "/" + strings.Repeat("a", api.MaxPath)},
		{Path: "/a", Meta: api.Meta{Mode: 4096}}, {Path: "/a", Meta: api.Meta{Mode: -1}}, {Path: "/a", Meta: api.Meta{Uid: -1}}, {Path: "/a", Meta: api.Meta{Gid: api.MaxId + 1}},
		{Path: "/b", Meta: api.Meta{Mode: 4096}}, {Path: "/none", Meta: api.Meta{Uid: api.MaxId + 1}},
	} {
		for i := range 4 {
			for _, st := range []api.State{given(), rising(api.MaxList)} {
				attempt{call: add(x, i%2 > 0, i > 1), want: api.EARG}.try(t, fmt.Sprintf("Add(%v)", x), filled(t, st), st)
			}
		}
	}
}

// rising is a state with so many overrides.
func rising(n int) api.State {
	st := given()
	for i := range n - len(st.Overs) {
		st.Overs = append(slices.Clip(st.Overs), api.Over{Path: fmt.Sprintf("/z%02d", i)})
	}
	return st
}

func TestAddFull(t *testing.T) {
	x := api.Over{Path: "/a", Meta: other}
	st := rising(api.MaxList - 1)
	attempt{add(x, false, true), api.OK, overs.Put(st.Overs, x), x, writes + 3}.try(t, "with 63", filled(t, st), st)
	st = rising(api.MaxList)
	for i := range 4 {
		attempt{call: add(x, i%2 > 0, i > 1), want: api.EFULL}.try(t, "with 64", filled(t, st), st)
	}
	had := api.Over{Path: "/b", Meta: api.Meta{Uid: 7}}
	attempt{call: add(had, false, true), want: api.EEXIST}.try(t, "of a path that is there with 64", filled(t, st), st)
	attempt{add(had, true, true), api.OK, overs.Put(st.Overs, had), had, writes + 3}.try(t, "with force with 64", filled(t, st), st)
	// A state that can't be is refused, though the override is right.
	d := filled(t, given())
	steps := d.Steps()
	for _, c := range []struct {
		st   api.State
		want api.Errno
	}{
		{with(given(), api.Over{Path: "/z"}, api.Over{Path: "/p"}), api.EARG},
		{with(given(), api.Over{Path: "/z"}, api.Over{Path: "/z"}), api.EARG},
		{with(given(), api.Over{Path: "/z", Meta: api.Meta{Mode: -1}}), api.EARG},
		{with(given(), api.Over{Path: "z"}), api.EARG},
		{with(given(), make([]api.Over, 64)...), api.EFULL},
	} {
		if got, e := statov.Add(d, c.st, x, true, true); !same(got, c.st) || e != c.want || d.Steps() != steps {
			t.Errorf("to %v: %v %d, want %d", c.st.Overs, got, e, c.want)
		}
	}
	holds(t, d, given())
}

func TestRemove(t *testing.T) {
	st := given()
	b, had := st.Overs[0], st.Overs[1]
	for _, c := range []struct {
		p     string
		want  api.Errno
		after []api.Over
		steps int
	}{
		{"/b", api.OK, []api.Over{had}, writes}, // whose file keeps its meta
		{"/had", api.OK, []api.Over{b}, writes},
		{"/a", api.ENOENT, nil, 0},
		{"/none", api.ENOENT, nil, 0},
		{"", api.ENOENT, nil, 0},
		{"/", api.ENOENT, nil, 0},
		{"/b/", api.ENOENT, nil, 0},
		{"/ha", api.ENOENT, nil, 0},
	} {
		attempt{call: remove(c.p), want: c.want, after: c.after, steps: c.steps}.try(t, fmt.Sprintf("Remove(%q)", c.p), filled(t, st), st)
	}
	one := with(given(), had)
	d := filled(t, one)
	attempt{call: remove("/had"), steps: writes}.try(t, "the last one", d, one)
	attempt{call: remove("/had"), want: api.ENOENT}.try(t, "of none", d, with(one))
	many := rising(api.MaxList)
	attempt{call: remove("/had"), after: overs.Drop(many.Overs, "/had"), steps: writes}.try(t, "of 64", filled(t, many), many)
}

// A state that can't be: what is left of it counts.
func TestRemoveFromWrong(t *testing.T) {
	d := filled(t, given())
	for _, c := range []struct {
		st   api.State
		want api.Errno
	}{
		{rising(api.MaxList + 2), api.EFULL},
		{with(given(), api.Over{Path: "/had"}, api.Over{Path: "/z"}, api.Over{Path: "/p"}), api.EARG},
		{with(given(), api.Over{Path: "/had"}, api.Over{Path: "p"}), api.EARG},
	} {
		steps := d.Steps()
		if got, e := statov.Remove(d, c.st, "/had"); !same(got, c.st) || e != c.want || d.Steps() != steps {
			t.Errorf("of %v: %v %d, want %d", c.st.Overs, got, e, c.want)
		}
	}
	holds(t, d, given())
	st := rising(api.MaxList + 1)
	want := with(st, overs.Drop(st.Overs, "/had")...)
	if got, e := statov.Remove(d, st, "/had"); !same(got, want) || e != api.OK {
		t.Errorf("of 65: %v %d", got, e)
	}
	holds(t, d, want)
}

// P16.3

func TestUpdate(t *testing.T) {
	// The chapter's example.
	st, d := given(), filled(t, given())
	st, e := statov.Add(d, st, api.Over{Path: "/a", Meta: api.Meta{Mode: 256}}, false, true)
	must(t, e)
	x, _ := d.Stat("/a")
	if x.Meta != (api.Meta{Mode: 256}) || x.Text != "text" {
		t.Errorf("%v", x)
	}
	loaded, e := store.Load(d)
	must(t, e)
	if !same(loaded, st) || overs.Meta(loaded.Overs, "/a", first) != x.Meta {
		t.Errorf("%v, want %v", loaded, st)
	}
	// All its names have it, and a link to it has not.
	d = filled(t, given())
	must(t, d.Do(api.Op{Kind: api.OLink, Path: "/a", To: "/name"}))
	_, e = statov.Add(d, given(), api.Over{Path: "/name", Meta: other}, false, true)
	must(t, e)
	for p, want := range map[string]api.Meta{"/a": other, "/name": other, "/l": first, "/b": first} {
		if x, _ := d.Stat(p); x.Meta != want {
			t.Errorf("%v, want %v", x, want)
		}
	}
}

// No disk, no power, and limits

func TestNoDiskNoPower(t *testing.T) {
	for _, d := range []*disk.Disk{nil, new(disk.Disk), filled(t, given())} {
		off := api.ENIL
		if d.On() {
			off = api.EOFF
			d.Fuse(0)
			d.Sync("/")
		}
		image := d.Image()
		for i, c := range []struct {
			call func(*disk.Disk, api.State) (api.State, api.Errno)
			want api.Errno
		}{
			{add(api.Over{Path: "/a", Meta: other}, false, true), off},
			{add(api.Over{Path: "/a", Meta: other}, false, false), off},
			{add(api.Over{Path: "/b", Meta: other}, true, true), off},
			{add(api.Over{Path: "a", Meta: other}, true, true), api.EARG},
			{add(api.Over{Path: "/b", Meta: other}, false, true), api.EEXIST},
			{remove("/b"), off},
			{remove("/a"), api.ENOENT},
		} {
			if st, e := c.call(d, given()); !same(st, given()) || e != c.want {
				t.Errorf("%d: %v %d, want %d", i, st, e, c.want)
			}
		}
		if _, e := statov.Add(d, rising(api.MaxList), api.Over{Path: "/a"}, false, false); e != api.EFULL {
			t.Errorf("with 64: %d", e)
		}
		// Nothing exists there that could get a meta.
		must(t, statov.Apply(d, "/a", other))
		if !slices.Equal(d.Image(), image) || d.On() {
			t.Error("something was done")
		}
	}
}

// calls are all ways in which a call can end well.
var calls = []struct {
	name string
	attempt
}{
	{"Add that updates both", attempt{add(api.Over{Path: "/a", Meta: other}, false, true), api.OK, overs.Put(given().Overs, api.Over{Path: "/a", Meta: other}), api.Over{Path: "/a", Meta: other}, writes + 3}},
	{"Add that updates the mode", attempt{add(api.Over{Path: "/b", Meta: api.Meta{Uid: 1, Gid: 2}}, true, true), api.OK, overs.Put(given().Overs, api.Over{Path: "/b", Meta: api.Meta{Uid: 1, Gid: 2}}), api.Over{Path: "/b", Meta: api.Meta{Uid: 1, Gid: 2}}, writes + 2}},
	{"Add that updates the ids", attempt{add(api.Over{Path: "/dir", Meta: api.Meta{Mode: 0o4755}}, false, true), api.OK, overs.Put(given().Overs, api.Over{Path: "/dir", Meta: api.Meta{Mode: 0o4755}}), api.Over{Path: "/dir", Meta: api.Meta{Mode: 0o4755}}, writes + 2}},
	{"Add that updates nothing", attempt{call: add(api.Over{Path: "/a", Meta: first}, false, true), after: overs.Put(given().Overs, api.Over{Path: "/a", Meta: first}), steps: writes}},
	{"Add of a link", attempt{call: add(api.Over{Path: "/l", Meta: other}, false, true), after: overs.Put(given().Overs, api.Over{Path: "/l", Meta: other}), steps: writes}},
	{"Add", attempt{call: add(api.Over{Path: "/a", Meta: other}, false, false), after: overs.Put(given().Overs, api.Over{Path: "/a", Meta: other}), steps: writes}},
	{"Remove", attempt{call: remove("/b"), after: given().Overs[1:], steps: writes}},
}

// A limit strikes at each step, and leaves all as it was.
func TestLimits(t *testing.T) {
	d := filled(t, given())
	filesNow, bytesNow := len(d.Image()), 0
	for _, x := range d.Image() {
		bytesNow += len(x.Text)
	}
	for _, c := range calls {
		for _, l := range []struct {
			limits api.Limits
			want   api.Errno
			done   int // steps that were done and undone
		}{
			{api.Limits{Files: filesNow}, api.ENFILE, 0}, // at OCreate
			{api.Limits{Name: 2}, api.ELONG, 0},          // at OCreate: new
			{api.Limits{Bytes: bytesNow}, api.ENOSPC, 2}, // at OWrite
			{api.Limits{Name: 11}, api.ELONG, 4},         // at ORename: statoverride
		} {
			st := given()
			d := filled(t, st)
			d.Bound(l.limits)
			image, steps := files(d.Image()), d.Steps()
			if got, e := c.call(d, st); !same(got, st) || e != l.want || d.Steps()-steps != l.done {
				t.Errorf("%s with %v: %v %d, %d steps", c.name, l.limits, got, e, d.Steps()-steps)
			}
			if !slices.Equal(files(d.Image()), image) || there(d, newAt) {
				t.Errorf("%s with %v: something is left", c.name, l.limits)
			}
			holds(t, d, st)
		}
		st := given()
		d := filled(t, st)
		d.Bound(api.Limits{Files: filesNow + 1, Bytes: bytesNow + 200, Name: len("statoverride")})
		c.try(t, c.name+" within the limits", d, st)
	}
}

// P16.4

// What was done is seen by what is there when power goes off: first all of
// the database, then the file.
func TestInOrder(t *testing.T) {
	for _, c := range calls {
		old, _ := overs.Print(given().Overs)
		after, e := overs.Print(c.after)
		must(t, e)
		for fuse := range c.steps {
			st := given()
			d := filled(t, st)
			image := files(d.Image())
			d.Fuse(fuse)
			if got, e := c.call(d, st); !same(got, st) || e != api.EOFF {
				t.Fatalf("%s with %d steps: %v %d", c.name, fuse, got, e)
			}
			want, pending := old, fuse
			if fuse >= 3 {
				pending = fuse - 3 // updates/new was synced
			}
			if fuse >= 4 {
				want = after
			}
			if fuse >= writes {
				pending = fuse - writes
			}
			if got := textAt(d.Image(), oversAt); got != want || d.Pending() != pending {
				t.Errorf("%s with %d steps: %q, %d pending, want %q, %d", c.name, fuse, got, d.Pending(), want, pending)
			}
			if changed := !slices.Equal(files(d.Image()), image); changed != (fuse > writes) {
				t.Errorf("%s with %d steps: files are %v", c.name, fuse, files(d.Image()))
			}
		}
	}
}

func textAt(l []api.Entry, p string) string {
	for _, x := range l {
		if x.Path == p {
			return x.Text
		}
	}
	return ""
}

// Whatever is kept of what was pending and dirty, the overrides are as they
// were, or as they are to be; and nothing changes but the meta of one file.
func TestAtOnce(t *testing.T) {
	for _, c := range calls {
		before, after := 0, 0
		for fuse := range c.steps + 2 {
			for keep := range 8 {
				for _, cut := range []int{0, 1, 7, 1 << 20, -1} {
					st := given()
					d := filled(t, st)
					if fuse%2 > 0 {
						leave(t, d)
					}
					image := files(d.Image())
					d.Fuse(fuse)
					got, e := c.call(d, st)
					if e == api.OK && !same(got, with(st, c.after...)) || e != api.OK && (!same(got, st) || e != api.EOFF) {
						t.Fatalf("%s with %d steps: %v %d", c.name, fuse, got, e)
					}
					d.Crash(keep, []int{cut, cut, cut})
					what := fmt.Sprintf("%s with %d steps, %d kept, %d of a text", c.name, fuse, keep, cut)
					switch now, e := store.Load(d); {
					case e == api.OK && same(now, st):
						before++
						if got := files(d.Image()); !slices.Equal(got, image) {
							t.Fatalf("%s: as before, but files are %v", what, got)
						}
					case e == api.OK && same(now, with(st, c.after...)):
						after++
					default:
						t.Fatalf("%s: %v %d", what, now, e)
					}
					if got := files(d.Image()); !among(got, image, c.meta) {
						t.Fatalf("%s: files are %v", what, got)
					}
				}
			}
		}
		if before == 0 || after == 0 {
			t.Errorf("%s: %d times as before, %d as after", c.name, before, after)
		}
	}
}

// among tells whether files are as others, but for one whose mode, or whose
// mode and ids, may be those of an override.
func among(got, old []api.Entry, x api.Over) bool {
	part := x.Meta
	for _, y := range old {
		if y.Path == x.Path {
			part = api.Meta{Mode: x.Meta.Mode, Uid: y.Meta.Uid, Gid: y.Meta.Gid}
		}
	}
	return slices.Equal(got, old) || slices.Equal(got, applied(old, x.Path, part)) || slices.Equal(got, applied(old, x.Path, x.Meta))
}

// leave lets a disk have what a crash leaves of a call that wrote.
func leave(t *testing.T, d *disk.Disk) {
	t.Helper()
	must(t, store.Lock(d))
	must(t, d.Do(api.Op{Kind: api.OCreate, Path: newAt}))
	must(t, d.Do(api.Op{Kind: api.OWrite, Path: newAt, Text: "what a crash left"}))
}

// What was answered as done lasts, whatever crash comes then.
func TestDoneLasts(t *testing.T) {
	for _, c := range calls {
		for keep := range 3 {
			st := given()
			d := filled(t, st)
			image := applied(files(d.Image()), c.meta.Path, c.meta.Meta)
			d.Fuse(c.steps)
			_, e := c.call(d, st)
			must(t, e)
			d.Crash(keep, nil)
			holds(t, d, with(st, c.after...))
			if !slices.Equal(files(d.Image()), image) {
				t.Errorf("%s: %v, want %v", c.name, files(d.Image()), image)
			}
		}
	}
}

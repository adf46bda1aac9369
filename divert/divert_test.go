package divert_test

import (
	"fmt"
	"slices"
	"strings"
	"testing"

	"cellarer/api"
	"cellarer/disk"
	"cellarer/divert"
	"cellarer/divs"
	"cellarer/lists"
	"cellarer/store"
)

const (
	divertsAt = "/var/lib/dpkg/diversions"
	newAt     = "/var/lib/dpkg/updates/new"

	stays = 5 // steps of a call that moves nothing
	moves = 7
)

// given is the state of all tests: /had is at /had.to for all, /x at /x.to for
// all but x; x has /a, /dir and /x, y has /a and /b. Behind the end of its
// diversions is something that nobody may touch.
func given() api.State {
	diverts := []api.Divert{{Path: "/had", To: "/had.to"}, {Path: "/x", To: "/x.to", By: "x"}, {Path: "spare"}}
	return api.State{
		Records:   []api.Record{{Name: "a", Version: "1", State: api.SInstalled}},
		Diverts:   diverts[:2],
		Overs:     []api.Over{{Path: "/a", Meta: api.Meta{Mode: 0o400}}},
		Alts:      []api.Alt{{Name: "vi", Link: "/vi", Cur: "/bin/vi", Choices: []api.Choice{{Path: "/bin/vi", Prio: 5}}}},
		Interests: []api.Interest{{Trigger: "/a", Package: "b"}},
		Fired:     []api.Fired{{Trigger: "/a", By: []string{"x"}}},
		Lists:     []api.List{{Name: "x", Paths: []string{"/a", "/dir", "/x"}}, {Name: "y", Paths: []string{"/a", "/b"}}},
	}
}

// same takes lists that are nil and empty as equal.
func same(a, b api.State) bool { return fmt.Sprint(a) == fmt.Sprint(b) }

func with(st api.State, l ...api.Divert) api.State {
	st.Diverts = l
	return st
}

func must(t *testing.T, e api.Errno) {
	t.Helper()
	if e != api.OK {
		t.Fatal(e)
	}
}

// filled is a disk with a state, and files, of which nothing is pending.
func filled(t *testing.T, st api.State) *disk.Disk {
	t.Helper()
	d := disk.New(api.Limits{})
	must(t, store.Format(d))
	must(t, store.Records(d, st.Records))
	must(t, store.Diverts(d, st.Diverts))
	must(t, store.Overs(d, st.Overs))
	must(t, store.Interests(d, st.Interests))
	must(t, store.Fired(d, st.Fired))
	for _, x := range st.Alts {
		must(t, store.Alt(d, x))
	}
	for _, x := range st.Lists {
		must(t, store.List(d, x))
	}
	must(t, d.Do(api.Op{Kind: api.OMkdir, Path: "/dir"}))
	for i, p := range []string{"/a", "/b", "/dir/f", "/had.to", "/x.to"} {
		must(t, d.Do(api.Op{Kind: api.OCreate, Path: p, Meta: api.Meta{Mode: 0o4000 + i, Uid: i, Gid: 9}}))
		must(t, d.Do(api.Op{Kind: api.OWrite, Path: p, Text: "text of " + p}))
		must(t, d.Sync(p))
	}
	must(t, d.Do(api.Op{Kind: api.OSymlink, Path: "/l", Text: "/a", Meta: api.Meta{Mode: 0o777}}))
	must(t, d.Sync("/"))
	return d
}

func holds(t *testing.T, d *disk.Disk, want api.State) {
	t.Helper()
	if st, e := store.Load(d); !same(st, want) || e != api.OK {
		t.Fatalf("Load: %v %d, want %v", st, e, want)
	}
}

func there(d *disk.Disk, p string) bool {
	_, e := d.Stat(p)
	return e == api.OK
}

// files is what is there of files that are no databases: of each path all but
// its number.
func files(l []api.Entry) []api.Entry {
	var out []api.Entry
	for _, x := range l {
		if !strings.HasPrefix(x.Path, "/var/lib/dpkg/") {
			x.Node = 0
			out = append(out, x)
		}
	}
	return out
}

// renamed is files of which one has another path.
func renamed(l []api.Entry, from, to string) []api.Entry {
	out := slices.Clone(l)
	for i, x := range out {
		if x.Path == from {
			out[i].Path = to
		}
	}
	slices.SortFunc(out, func(x, y api.Entry) int { return strings.Compare(x.Path, y.Path) })
	return out
}

// attempt is a call, and what it is to do: an error with which nothing is
// done, or diversions, and a file that goes from a path to another one.
type attempt struct {
	call     func(d *disk.Disk, st api.State) (api.State, api.Errno)
	want     api.Errno
	after    []api.Divert
	from, to string
}

func (a attempt) steps() int {
	switch {
	case a.want != api.OK:
		return 0
	case a.from != "":
		return moves
	}
	return stays
}

// try holds a call to what it is to do with a state on a disk.
func (a attempt) try(t *testing.T, what string, d *disk.Disk, st api.State) {
	t.Helper()
	want, image, steps := st, files(d.Image()), d.Steps()
	if a.want == api.OK {
		want, image = with(st, a.after...), renamed(image, a.from, a.to)
	}
	text := fmt.Sprint(st, st.Diverts[:cap(st.Diverts)])
	got, e := a.call(d, st)
	if e != a.want || !same(got, want) {
		t.Errorf("%s: %v %d, want %v %d", what, got, e, want, a.want)
	}
	if fmt.Sprint(st, st.Diverts[:cap(st.Diverts)]) != text {
		t.Errorf("%s changed what it was given: %v", what, st)
	}
	if n := d.Steps() - steps; n != a.steps() || d.Pending() != 0 {
		t.Errorf("%s: %d steps, %d pending, want %d", what, n, d.Pending(), a.steps())
	}
	if got := files(d.Image()); !slices.Equal(got, image) {
		t.Errorf("%s: files are %v, want %v", what, got, image)
	}
	holds(t, d, want)
	d.Crash(0, nil)
	holds(t, d, want)
	if got := files(d.Image()); !slices.Equal(got, image) {
		t.Errorf("%s: after a crash files are %v, want %v", what, got, image)
	}
}

func add(x api.Divert, rename bool) func(*disk.Disk, api.State) (api.State, api.Errno) {
	return func(d *disk.Disk, st api.State) (api.State, api.Errno) { return divert.Add(d, st, x, rename) }
}

func remove(p, by string, rename bool) func(*disk.Disk, api.State) (api.State, api.Errno) {
	return func(d *disk.Disk, st api.State) (api.State, api.Errno) {
		return divert.Remove(d, st, p, by, rename)
	}
}

// rising is so many diversions that have nothing to do with files, behind
// those of given.
func rising(n int) api.State {
	st := given()
	for i := range n - len(st.Diverts) {
		st.Diverts = append(slices.Clip(st.Diverts), api.Divert{Path: fmt.Sprintf("/z%02d", i), To: fmt.Sprintf("/z%02d.to", i)})
	}
	return st
}

// P15.1, P15.2

func TestAdd(t *testing.T) {
	for _, c := range []struct {
		path, to, by string
		rename       bool
		want         api.Errno
		moved        bool
	}{
		{"/a", "/a.to", "", true, api.OK, true},
		{"/a", "/a.to", "", false, api.OK, false},
		{"/a", "/dir/a", "", true, api.OK, true},
		{"/dir/f", "/f", "", true, api.OK, true},
		// Its owners keep it.
		{"/a", "/a.to", "x", true, api.OK, false},
		{"/a", "/a.to", "y", true, api.OK, false},
		{"/a", "/a.to", "z", true, api.OK, true},
		{"/b", "/b.to", "x", true, api.OK, true},
		{"/b", "/b.to", "y", true, api.OK, false},
		{"/c", "/a.to", "x", true, api.OK, false},
		{"/dir/f", "/f", "x", true, api.OK, true},
		// What is moved may be a link, but no directory.
		{"/l", "/l.to", "", true, api.OK, true},
		{"/l", "/l.to", "x", true, api.OK, true},
		{"/dir", "/dir.to", "", true, api.EISDIR, false},
		{"/dir", "/dir.to", "y", true, api.EISDIR, false},
		{"/dir", "/dir.to", "x", true, api.OK, false},
		{"/dir", "/dir.to", "", false, api.OK, false},
		{"/dir", "/b", "", true, api.EISDIR, false},
		{"/dir", "/dir/d", "", true, api.EISDIR, false},
		{"/dir", "/no/d", "", true, api.EISDIR, false},
		// Nothing is there.
		{"/c", "/c.to", "", true, api.OK, false},
		{"/c", "/no/c", "", true, api.OK, false},
		{"/no/c", "/c.to", "", true, api.OK, false},
		{"/a/c", "/c.to", "", true, api.OK, false},
		{"/c", "/b", "", true, api.OK, false},
		{"/c", "/dir", "", true, api.OK, false},
		// Something is where it goes.
		{"/a", "/b", "", true, api.EEXIST, false},
		{"/a", "/l", "", true, api.EEXIST, false},
		{"/a", "/dir", "", true, api.EEXIST, false},
		{"/l", "/a", "z", true, api.EEXIST, false},
		{"/a", "/b", "", false, api.OK, false},
		{"/a", "/b", "x", true, api.OK, false},
		{"/a", "/b", "z", true, api.EEXIST, false},
		// It can't be there.
		{"/a", "/no/a", "", true, api.ENOENT, false},
		{"/a", "/b/a", "", true, api.ENOTDIR, false},
		{"/a", "/a/a", "", true, api.ENOTDIR, false},
		{"/a", "/l/a", "", true, api.ENOTDIR, false},
		{"/a", "/no/a", "", false, api.OK, false},
		{"/a", "/a/a", "y", true, api.OK, false},
		// Not right, which goes ahead of all else.
		{"", "/a.to", "", true, api.EARG, false},
		{"a", "/a.to", "", true, api.EARG, false},
		{"/", "/a.to", "", true, api.EARG, false},
		{"/a/", "/a.to", "", true, api.EARG, false},
		{"/a", "", "", true, api.EARG, false},
		{"/a", "/", "", true, api.EARG, false},
		{"/a", "/dir/../c", "", true, api.EARG, false},
		{"/a", "/a", "", false, api.EARG, false},
		{"/a", "/a.to", "X", true, api.EARG, false},
		{"/a", "/a.to", ":", false, api.EARG, false},
		{"/had", "/", "", true, api.EARG, false},
		{"/had", "/had", "", true, api.EARG, false},
		{"/dir", "/b", "-", true, api.EARG, false},
		// Another one of its path.
		{"/had", "/c", "", true, api.EDIVERT, false},
		{"/had", "/had.to", "x", true, api.EDIVERT, false},
		{"/had", "/no/c", "x", false, api.EDIVERT, false},
		{"/x", "/x.to", "", true, api.EDIVERT, false},
		{"/x", "/x.to", "y", false, api.EDIVERT, false},
		{"/x", "/c", "x", true, api.EDIVERT, false},
		// Places that would be alike.
		{"/a", "/had", "", true, api.EDIVERT, false},
		{"/a", "/had.to", "", true, api.EDIVERT, false},
		{"/a", "/x.to", "x", false, api.EDIVERT, false},
		{"/a", "/x", "", false, api.EDIVERT, false},
		{"/had.to", "/c", "", true, api.EDIVERT, false},
		{"/x.to", "/c", "x", false, api.EDIVERT, false},
		{"/had.to", "/had", "", true, api.EDIVERT, false},
		{"/dir", "/had.to", "", true, api.EDIVERT, false},
	} {
		st, x := given(), api.Divert{Path: c.path, To: c.to, By: c.by}
		a := attempt{call: add(x, c.rename), want: c.want, after: divs.Put(st.Diverts, x)}
		if c.moved {
			a.from, a.to = c.path, c.to
		}
		a.try(t, fmt.Sprintf("Add(%v, %v)", x, c.rename), filled(t, st), st)
	}
}

// The chapter's and the document's example.
func TestExample(t *testing.T) {
	st := given()
	d := filled(t, st)
	at, _ := d.Stat("/a")
	st, e := divert.Add(d, st, api.Divert{Path: "/a", To: "/a.distrib"}, true)
	must(t, e)
	if divs.True(st.Diverts, "/a", "") != "/a.distrib" || there(d, "/a") {
		t.Error(st)
	}
	if x, _ := d.Stat("/a.distrib"); x.Text != at.Text || x.Node != at.Node {
		t.Errorf("%v, want %v", x, at)
	}
}

// The very same diversion is there already: nothing is done, whatever is on
// the disk, and with no disk at all.
func TestAddAgain(t *testing.T) {
	for _, x := range given().Diverts {
		for _, rename := range []bool{false, true} {
			st := given()
			d := filled(t, st)
			must(t, d.Do(api.Op{Kind: api.OCreate, Path: x.Path}))
			must(t, d.Sync("/"))
			steps, image := d.Steps(), d.Image()
			for _, d := range []*disk.Disk{d, nil, new(disk.Disk)} {
				if got, e := divert.Add(d, st, x, rename); !same(got, st) || e != api.OK {
					t.Errorf("Add(%v, %v): %v %d", x, rename, got, e)
				}
			}
			if d.Steps() != steps || !slices.Equal(d.Image(), image) {
				t.Errorf("Add(%v, %v) did something", x, rename)
			}
		}
	}
	// The first one of a path counts.
	one, two := api.Divert{Path: "/a", To: "/b"}, api.Divert{Path: "/a", To: "/c"}
	st := with(given(), one, two)
	if got, e := divert.Add(nil, st, one, true); !same(got, st) || e != api.OK {
		t.Errorf("the first one: %v %d", got, e)
	}
	if got, e := divert.Add(nil, st, two, true); !same(got, st) || e != api.EDIVERT {
		t.Errorf("the second one: %v %d", got, e)
	}
}

// A By that is empty owns nothing, not even where a list without a name has the
// path; and who owns the place to which a file goes is of no matter.
func TestNobodyOwns(t *testing.T) {
	st := given()
	st.Lists = []api.List{{Paths: []string{"/a", "/had"}}, {Name: "z", Paths: []string{"/a.to", "/b.to"}}}
	d := filled(t, given())
	for _, c := range []struct {
		call     func(*disk.Disk, api.State) (api.State, api.Errno)
		from, to string
	}{
		{add(api.Divert{Path: "/a", To: "/a.to"}, true), "/a", "/a.to"},
		{add(api.Divert{Path: "/b", To: "/b.to", By: "z"}, true), "/b", "/b.to"},
		{remove("/had", "", true), "/had.to", "/had"},
	} {
		if _, e := c.call(d, st); e != api.OK || there(d, c.from) || !there(d, c.to) {
			t.Errorf("%s to %s: %d", c.from, c.to, e)
		}
	}
}

func TestAddFull(t *testing.T) {
	x := api.Divert{Path: "/a", To: "/a.to"}
	st := rising(api.MaxList - 1)
	attempt{add(x, true), api.OK, divs.Put(st.Diverts, x), "/a", "/a.to"}.try(t, "with 63", filled(t, st), st)
	st = rising(api.MaxList)
	d := filled(t, st)
	for _, x := range []api.Divert{x, {Path: "/dir", To: "/b"}, {Path: "/had.to", To: "/x"}} {
		attempt{call: add(x, true), want: api.EFULL}.try(t, fmt.Sprintf("Add(%v) with 64", x), d, st)
	}
	// One of its path, and one that is not right, are told of first.
	attempt{call: add(api.Divert{Path: "/had", To: "/c"}, true), want: api.EDIVERT}.try(t, "of its path with 64", d, st)
	attempt{call: add(api.Divert{Path: "/a", To: "/"}, true), want: api.EARG}.try(t, "not right with 64", d, st)
	if got, e := divert.Add(d, st, st.Diverts[63], true); !same(got, st) || e != api.OK {
		t.Errorf("the same with 64: %v %d", got, e)
	}
	// A state that can't be is refused, though the diversion is right.
	st = with(given(), api.Divert{Path: "/z", To: "/y"}, api.Divert{Path: "/p", To: "/q"})
	if got, e := divert.Add(d, st, x, true); !same(got, st) || e != api.EDIVERT {
		t.Errorf("where diversions do not rise: %v %d", got, e)
	}
}

// P15.3

func TestRemove(t *testing.T) {
	had, byX := given().Diverts[0], given().Diverts[1]
	create := func(p string) api.Op { return api.Op{Kind: api.OCreate, Path: p} }
	mkdir := func(p string) api.Op { return api.Op{Kind: api.OMkdir, Path: p} }
	unlink := func(p string) api.Op { return api.Op{Kind: api.OUnlink, Path: p} }
	link := func(p string) api.Op { return api.Op{Kind: api.OSymlink, Path: p, Text: "/no"} }
	left := func(x api.Divert) []api.Divert { return []api.Divert{x} }
	for _, c := range []struct {
		p, by  string
		rename bool
		ahead  []api.Op
		lose   string // which list loses /x
		want   api.Errno
		after  []api.Divert
		from   string
	}{
		{p: "/had", rename: true, after: left(byX), from: "/had.to"},
		{p: "/had", rename: false, after: left(byX)},
		{p: "/x", by: "x", rename: true, after: left(had)}, // it is x's
		{p: "/x", by: "x", rename: false, after: left(had)},
		{p: "/x", by: "x", rename: true, lose: "x", after: left(had), from: "/x.to"},
		{p: "/x", by: "x", rename: false, lose: "x", after: left(had)},
		// Another one, or none.
		{p: "/a", rename: true, want: api.ENOENT},
		{p: "/a", by: "x", want: api.ENOENT},
		{p: "", rename: true, want: api.ENOENT},
		{p: "/had.to", rename: true, want: api.ENOENT},
		{p: "/x.to", by: "x", rename: true, want: api.ENOENT},
		{p: "/had/", rename: true, want: api.ENOENT},
		{p: "/had", by: "x", rename: true, want: api.EDIVERT},
		{p: "/had", by: ":", want: api.EDIVERT},
		{p: "/x", by: "", rename: true, want: api.EDIVERT},
		{p: "/x", by: "y", want: api.EDIVERT},
		{p: "/x", by: "X", want: api.EDIVERT},
		// What is where it was moved to.
		{p: "/had", rename: true, ahead: []api.Op{unlink("/had.to")}, after: left(byX)},
		{p: "/had", rename: true, ahead: []api.Op{unlink("/had.to"), create("/had")}, after: left(byX)},
		{p: "/had", rename: true, ahead: []api.Op{unlink("/had.to"), link("/had.to")}, after: left(byX), from: "/had.to"},
		{p: "/had", rename: true, ahead: []api.Op{unlink("/had.to"), mkdir("/had.to")}, want: api.EISDIR},
		{p: "/had", rename: true, ahead: []api.Op{unlink("/had.to"), mkdir("/had.to"), create("/had")}, want: api.EISDIR},
		{p: "/had", rename: false, ahead: []api.Op{unlink("/had.to"), mkdir("/had.to")}, after: left(byX)},
		{p: "/x", by: "x", rename: true, ahead: []api.Op{unlink("/x.to"), mkdir("/x.to")}, after: left(had)},
		{p: "/x", by: "x", rename: true, lose: "x", ahead: []api.Op{unlink("/x.to"), mkdir("/x.to")}, want: api.EISDIR},
		// What is where it goes back.
		{p: "/had", rename: true, ahead: []api.Op{create("/had")}, want: api.EEXIST},
		{p: "/had", rename: true, ahead: []api.Op{mkdir("/had")}, want: api.EEXIST},
		{p: "/had", rename: true, ahead: []api.Op{link("/had")}, want: api.EEXIST},
		{p: "/had", rename: false, ahead: []api.Op{create("/had")}, after: left(byX)},
		{p: "/had", by: "y", rename: true, ahead: []api.Op{create("/had")}, want: api.EDIVERT},
		{p: "/x", by: "x", rename: true, ahead: []api.Op{create("/x")}, after: left(had)},
		{p: "/x", by: "x", rename: true, lose: "x", ahead: []api.Op{create("/x")}, want: api.EEXIST},
	} {
		st := given()
		if c.lose != "" {
			st.Lists = lists.Lose(st.Lists, c.lose, []string{"/x"})
		}
		d := filled(t, st)
		for _, x := range c.ahead {
			must(t, d.Do(x))
		}
		must(t, d.Sync("/"))
		a := attempt{call: remove(c.p, c.by, c.rename), want: c.want, after: c.after, from: c.from}
		if c.from != "" {
			a.to = c.p
		}
		a.try(t, fmt.Sprintf("Remove(%q, %q, %v) behind %v", c.p, c.by, c.rename, c.ahead), d, st)
	}
}

// The way back may be gone.
func TestRemoveNowhere(t *testing.T) {
	for _, c := range []struct {
		path string
		want api.Errno
	}{
		{"/no/a", api.ENOENT}, {"/a/b", api.ENOTDIR}, {"/l/b", api.ENOTDIR}, {"/b/b", api.ENOTDIR},
	} {
		x := api.Divert{Path: c.path, To: "/b", By: "y"}
		st := with(given(), x)
		d := filled(t, st)
		attempt{call: remove(c.path, "y", true), want: c.want}.try(t, c.path, d, st)
		attempt{call: remove(c.path, "y", false)}.try(t, c.path+" without rename", d, st)
		attempt{call: remove(c.path, "y", true), want: api.ENOENT}.try(t, c.path+" again", d, with(st))
	}
}

func TestRemoveMany(t *testing.T) {
	st := rising(api.MaxList)
	attempt{remove("/had", "", true), api.OK, st.Diverts[1:], "/had.to", "/had"}.try(t, "of 64", filled(t, st), st)
	// A state that can't be, and is none without it.
	d, st := filled(t, given()), rising(api.MaxList+1)
	got, e := divert.Remove(d, st, "/had", "", true)
	if !same(got, with(st, st.Diverts[1:]...)) || e != api.OK || !there(d, "/had") {
		t.Errorf("of 65: %v %d", got, e)
	}
	d, st = filled(t, given()), rising(api.MaxList+2)
	if got, e := divert.Remove(d, st, "/had", "", true); !same(got, st) || e != api.EFULL || there(d, "/had") {
		t.Errorf("of 66: %v %d", got, e)
	}
	d, st = filled(t, given()), with(given(), api.Divert{Path: "/z", To: "/y"}, api.Divert{Path: "/p", To: "/q"}, api.Divert{Path: "/had", To: "/had.to"})
	if got, e := divert.Remove(d, st, "/had", "", true); !same(got, st) || e != api.EARG || there(d, "/had") {
		t.Errorf("where diversions do not rise: %v %d", got, e)
	}
	holds(t, d, given())
}

// P15.4

func TestThereAndBack(t *testing.T) {
	for _, c := range []struct{ path, to, by string }{
		{"/a", "/a.to", ""}, {"/a", "/dir/a", "z"}, {"/l", "/l.to", ""}, {"/b", "/b.to", "x"}, {"/dir/f", "/f", "y"},
	} {
		st, d := given(), filled(t, given())
		// Another name of the file stays.
		must(t, d.Do(api.Op{Kind: api.OLink, Path: c.path, To: "/name"}))
		image, at := files(d.Image()), entry(t, d, c.path)
		x := api.Divert{Path: c.path, To: c.to, By: c.by}
		there, e := divert.Add(d, st, x, true)
		must(t, e)
		moved := at
		moved.Path = c.to
		if got := entry(t, d, c.to); got != moved || entry(t, d, "/name").Node != at.Node {
			t.Errorf("%v: %v, want %v", x, got, moved)
		}
		if _, e := d.Stat(c.path); e != api.ENOENT {
			t.Errorf("%v: at %s there is something", x, c.path)
		}
		back, e := divert.Remove(d, there, c.path, c.by, true)
		must(t, e)
		if got := entry(t, d, c.path); got != at || !slices.Equal(files(d.Image()), image) {
			t.Errorf("%v: %v, want %v", x, got, at)
		}
		if !same(back, st) {
			t.Errorf("%v: %v, want %v", x, back, st)
		}
		holds(t, d, st)
	}
}

func entry(t *testing.T, d *disk.Disk, p string) api.Entry {
	t.Helper()
	x, e := d.Stat(p)
	must(t, e)
	return x
}

// No disk, no power, and limits

func TestNoDiskNoPower(t *testing.T) {
	for _, d := range []*disk.Disk{nil, new(disk.Disk), filled(t, given())} {
		off := api.ENIL
		if d.On() {
			off = api.EOFF
			d.Fuse(0)
			d.Sync("/")
		}
		image := d.Image()
		for i, c := range []struct {
			call func(*disk.Disk, api.State) (api.State, api.Errno)
			want api.Errno
		}{
			{add(api.Divert{Path: "/a", To: "/a.to"}, true), off},
			{add(api.Divert{Path: "/a", To: "/a.to"}, false), off},
			{add(api.Divert{Path: "/dir", To: "/b"}, true), off}, // nothing can be seen there
			{add(api.Divert{Path: "/a", To: "/"}, true), api.EARG},
			{add(api.Divert{Path: "/had", To: "/b"}, true), api.EDIVERT},
			{add(api.Divert{Path: "/a", To: "/had"}, true), api.EDIVERT},
			{add(api.Divert{Path: "/had", To: "/had.to"}, true), api.OK},
			{remove("/had", "", true), off},
			{remove("/x", "x", false), off},
			{remove("/a", "", true), api.ENOENT},
			{remove("/x", "", true), api.EDIVERT},
		} {
			if st, e := c.call(d, given()); !same(st, given()) || e != c.want {
				t.Errorf("%d: %v %d, want %d", i, st, e, c.want)
			}
		}
		if !slices.Equal(d.Image(), image) || d.On() {
			t.Error("something was done")
		}
	}
}

// calls are all ways in which a call can end well, and the most bytes that the
// names have that it makes.
var calls = []struct {
	name string
	attempt
	long int
}{
	{"Add that moves", attempt{add(api.Divert{Path: "/a", To: "/a.and.more.to"}, true), api.OK, divs.Put(given().Diverts, api.Divert{Path: "/a", To: "/a.and.more.to"}), "/a", "/a.and.more.to"}, 13},
	{"Add that moves to a short name", attempt{add(api.Divert{Path: "/a", To: "/c"}, true), api.OK, divs.Put(given().Diverts, api.Divert{Path: "/a", To: "/c"}), "/a", "/c"}, 1},
	{"Add", attempt{call: add(api.Divert{Path: "/a", To: "/a.and.more.to"}, false), after: divs.Put(given().Diverts, api.Divert{Path: "/a", To: "/a.and.more.to"})}, 0},
	{"Remove that moves", attempt{remove("/had", "", true), api.OK, given().Diverts[1:], "/had.to", "/had"}, 3},
	{"Remove", attempt{call: remove("/had", "", false), after: given().Diverts[1:]}, 0},
	{"Remove of what x has", attempt{call: remove("/x", "x", true), after: given().Diverts[:1]}, 0},
}

// A limit strikes at each step, and leaves all as it was.
func TestLimits(t *testing.T) {
	d := filled(t, given())
	filesNow, bytesNow := len(d.Image()), 0
	for _, x := range d.Image() {
		bytesNow += len(x.Text)
	}
	for _, c := range calls {
		for _, l := range []struct {
			limits api.Limits
			want   api.Errno
			done   int // steps that were done and undone
		}{
			{api.Limits{Files: filesNow}, api.ENFILE, 0}, // at OCreate
			{api.Limits{Name: 2}, api.ELONG, 0},          // at OCreate: new
			{api.Limits{Bytes: bytesNow}, api.ENOSPC, 2}, // at OWrite
			{api.Limits{Name: 9}, api.ELONG, 4},          // at ORename: diversions
		} {
			st := given()
			d := filled(t, st)
			d.Bound(l.limits)
			image, steps := files(d.Image()), d.Steps()
			done := l.done
			if l.limits.Name > 0 && c.long > l.limits.Name {
				done = 0 // the move is found to be none before anything is done
			}
			if got, e := c.call(d, st); !same(got, st) || e != l.want || d.Steps()-steps != done {
				t.Errorf("%s with %v: %v %d, %d steps", c.name, l.limits, got, e, d.Steps()-steps)
			}
			if !slices.Equal(files(d.Image()), image) || there(d, newAt) {
				t.Errorf("%s with %v: something is left", c.name, l.limits)
			}
			holds(t, d, st)
		}
		st := given()
		d := filled(t, st)
		d.Bound(api.Limits{Files: filesNow + 1, Bytes: bytesNow + 200, Name: max(c.long, len("diversions"))})
		c.try(t, c.name+" within the limits", d, st)
		if c.long <= len("diversions") {
			continue
		}
		d = filled(t, st)
		d.Bound(api.Limits{Name: c.long - 1})
		attempt{call: c.call, want: api.ELONG}.try(t, c.name+" to a long name", d, st)
	}
}

// P15.5

// What was done is seen by what is there when power goes off: first all of
// the database, then the file.
func TestInOrder(t *testing.T) {
	for _, c := range calls {
		old, _ := divs.Print(given().Diverts)
		after, e := divs.Print(c.after)
		must(t, e)
		for fuse := range c.steps() {
			st := given()
			d := filled(t, st)
			image := files(d.Image())
			d.Fuse(fuse)
			if got, e := c.call(d, st); !same(got, st) || e != api.EOFF {
				t.Fatalf("%s with %d steps: %v %d", c.name, fuse, got, e)
			}
			want, pending := old, fuse
			if fuse >= 3 {
				pending = fuse - 3 // updates/new was synced
			}
			if fuse >= 4 {
				want = after
			}
			if fuse >= stays {
				pending = fuse - stays
			}
			if fuse > stays {
				image = renamed(image, c.from, c.to)
			}
			if got := textAt(d.Image(), divertsAt); got != want || d.Pending() != pending {
				t.Errorf("%s with %d steps: %q, %d pending, want %q, %d", c.name, fuse, got, d.Pending(), want, pending)
			}
			if got := files(d.Image()); !slices.Equal(got, image) {
				t.Errorf("%s with %d steps: %v, want %v", c.name, fuse, got, image)
			}
		}
	}
}

func textAt(l []api.Entry, p string) string {
	for _, x := range l {
		if x.Path == p {
			return x.Text
		}
	}
	return ""
}

// Whatever is kept of what was pending and dirty, the diversions are as they
// were, or as they are to be; nothing else changes, and no file is lost.
func TestAtOnce(t *testing.T) {
	for _, c := range calls {
		before, after, moved := 0, 0, 0
		for fuse := range c.steps() + 2 {
			for keep := range 8 {
				for _, cut := range []int{0, 1, 7, 1 << 20, -1} {
					st := given()
					d := filled(t, st)
					if fuse%2 > 0 {
						leave(t, d)
					}
					image := files(d.Image())
					d.Fuse(fuse)
					got, e := c.call(d, st)
					if e == api.OK && !same(got, with(st, c.after...)) || e != api.OK && (!same(got, st) || e != api.EOFF) {
						t.Fatalf("%s with %d steps: %v %d", c.name, fuse, got, e)
					}
					d.Crash(keep, []int{cut, cut, cut})
					what := fmt.Sprintf("%s with %d steps, %d kept, %d of a text", c.name, fuse, keep, cut)
					switch now, e := store.Load(d); {
					case e == api.OK && same(now, st):
						before++
						if got := files(d.Image()); !slices.Equal(got, image) {
							t.Fatalf("%s: as before, but files are %v", what, got)
						}
					case e == api.OK && same(now, with(st, c.after...)):
						after++
					default:
						t.Fatalf("%s: %v %d", what, now, e)
					}
					switch got := files(d.Image()); {
					case c.from != "" && slices.Equal(got, renamed(image, c.from, c.to)):
						moved++
					case !slices.Equal(got, image):
						t.Fatalf("%s: files are %v", what, got)
					}
				}
			}
		}
		if before == 0 || after == 0 || c.from != "" && (moved == 0 || moved >= after) {
			t.Errorf("%s: %d times as before, %d as after, %d moved", c.name, before, after, moved)
		}
	}
}

// leave lets a disk have what a crash leaves of a call that wrote.
func leave(t *testing.T, d *disk.Disk) {
	t.Helper()
	must(t, store.Lock(d))
	must(t, d.Do(api.Op{Kind: api.OCreate, Path: newAt}))
	must(t, d.Do(api.Op{Kind: api.OWrite, Path: newAt, Text: "what a crash left"}))
}

// What was answered as done lasts, whatever crash comes then.
func TestDoneLasts(t *testing.T) {
	for _, c := range calls {
		for keep := range 3 {
			st := given()
			d := filled(t, st)
			image := renamed(files(d.Image()), c.from, c.to)
			d.Fuse(c.steps())
			_, e := c.call(d, st)
			must(t, e)
			d.Crash(keep, nil)
			holds(t, d, with(st, c.after...))
			if !slices.Equal(files(d.Image()), image) {
				t.Errorf("%s: %v, want %v", c.name, files(d.Image()), image)
			}
		}
	}
}

// A call that power cut off can be done again.
func TestAgainAfterCrash(t *testing.T) {
	for _, c := range calls {
		for fuse := range c.steps() {
			d := filled(t, given())
			d.Fuse(fuse)
			c.call(d, given())
			d.Crash(0, nil)
			must(t, store.Clean(d))
			st, e := store.Load(d)
			must(t, e)
			if !same(st, given()) {
				continue
			}
			c.try(t, fmt.Sprintf("%s again, behind %d steps", c.name, fuse), d, st)
		}
	}
}

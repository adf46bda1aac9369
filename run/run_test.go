package run_test

import (
	"fmt"
	"reflect"
	"slices"
	"strings"
	"testing"

	"cellarer/alter"
	"cellarer/api"
	"cellarer/disk"
	"cellarer/divert"
	"cellarer/run"
	"cellarer/statov"
	"cellarer/store"
	"cellarer/trigs"
)

const fires = 5 // steps in which fired triggers are written

var (
	first = api.Meta{Mode: 0o644, Uid: 1, Gid: 2} // of all files
	other = api.Meta{Mode: 0o4755, Uid: 3, Gid: api.MaxId}
)

// vi is an alternative whose best choice is /opt/b.
func vi() api.Alt {
	return api.Alt{
		Name: "vi", Link: "/bin/vi", Cur: "/opt/b",
		Slaves:  []api.Slave{{Name: "vi.1", Link: "/bin/vi.1"}},
		Choices: []api.Choice{{Path: "/opt/a", Prio: 5, Slaves: []string{"/opt/a"}}, {Path: "/opt/b", Prio: 9, Slaves: []string{""}}},
	}
}

// given is the state of all tests. Behind the ends of all of its lists is
// something that nobody may touch.
func given() api.State {
	return spared(api.State{
		Records:   []api.Record{{Name: "a", Version: "1", State: api.SInstalled}},
		Diverts:   []api.Divert{{Path: "/d", To: "/d.moved"}, {Path: "/p", To: "/p.x", By: "x"}},
		Overs:     []api.Over{{Path: "/b", Meta: first}},
		Alts:      []api.Alt{vi()},
		Interests: []api.Interest{{Trigger: "/a", Package: "b"}},
		Fired:     []api.Fired{{Trigger: "/a"}, {Trigger: "t", By: []string{"x"}}},
		Lists:     []api.List{{Name: "x", Paths: []string{"/p"}}},
	})
}

// spared is a copy of which each list has something behind its end.
func spared[T any](x T) T {
	out := reflect.New(reflect.TypeOf(x)).Elem()
	copied(out, reflect.ValueOf(x))
	return out.Interface().(T)
}

func copied(to, from reflect.Value) {
	switch from.Kind() {
	case reflect.Struct:
		for i := range from.NumField() {
			copied(to.Field(i), from.Field(i))
		}
	case reflect.Array:
		for i := range from.Len() {
			copied(to.Index(i), from.Index(i))
		}
	case reflect.Slice:
		l := reflect.MakeSlice(from.Type(), from.Len()+2, from.Len()+2)
		for i := range from.Len() {
			copied(l.Index(i), from.Index(i))
		}
		if l.Index(from.Len()).Kind() == reflect.String {
			l.Index(from.Len()).SetString("spare")
		}
		to.Set(l.Slice(0, from.Len()))
	default:
		to.Set(from)
	}
}

// show is all of something as a text, in which lists that are nil and empty are
// alike; if it's to be whole, with what is behind the ends of lists.
func show(x any, whole bool) string {
	var out strings.Builder
	var tell func(reflect.Value)
	tell = func(v reflect.Value) {
		switch v.Kind() {
		case reflect.Struct:
			for i := range v.NumField() {
				tell(v.Field(i))
			}
		case reflect.Slice:
			n := v.Len()
			if whole {
				v = v.Slice(0, v.Cap())
			}
			fmt.Fprintf(&out, "%d[", n)
			for i := range v.Len() {
				tell(v.Index(i))
			}
			out.WriteString("]")
		case reflect.Array:
			for i := range v.Len() {
				tell(v.Index(i))
			}
		default:
			fmt.Fprintf(&out, "%#v ", v)
		}
	}
	tell(reflect.ValueOf(x))
	return out.String()
}

func same(a, b any) bool { return show(a, false) == show(b, false) }

func must(t *testing.T, e api.Errno) {
	t.Helper()
	if e != api.OK {
		t.Fatal(e)
	}
}

// filled is a disk with a state, and files, of which nothing is pending.
func filled(t *testing.T, st api.State) *disk.Disk {
	t.Helper()
	d := disk.New(api.Limits{})
	must(t, store.Format(d))
	for _, x := range []api.Op{
		{Kind: api.OMkdir, Path: "/bin"}, {Kind: api.OMkdir, Path: "/opt"},
		{Kind: api.OCreate, Path: "/a", Meta: first}, {Kind: api.OWrite, Path: "/a", Text: "text"},
		{Kind: api.OCreate, Path: "/b", Meta: first}, {Kind: api.OCreate, Path: "/p", Meta: first}, {Kind: api.OCreate, Path: "/d.moved", Meta: first},
		{Kind: api.OCreate, Path: "/opt/a"}, {Kind: api.OCreate, Path: "/opt/b"}, {Kind: api.OCreate, Path: "/opt/c"},
	} {
		must(t, d.Do(x))
	}
	must(t, d.Sync("/a"))
	must(t, store.Records(d, st.Records))
	must(t, store.Diverts(d, st.Diverts))
	must(t, store.Overs(d, st.Overs))
	must(t, store.Interests(d, st.Interests))
	must(t, store.Fired(d, st.Fired))
	for _, x := range st.Alts {
		must(t, alter.Fix(d, x))
		must(t, store.Alt(d, x))
	}
	for _, x := range st.Lists {
		must(t, store.List(d, x))
	}
	return d
}

// look is all that a disk tells.
func look(d *disk.Disk) string {
	return fmt.Sprint(d.Image(), d.Kept(), d.Dirty(), d.Steps(), d.Pending(), d.On())
}

func loads(t *testing.T, d *disk.Disk) api.State {
	t.Helper()
	st, e := store.Load(d)
	must(t, e)
	return st
}

// call is a command of a layer below.
type call func(d *disk.Disk, st api.State) (api.State, api.Errno)

// command is a command, by whom it is done, what it is to do, and its error.
type command struct {
	what string
	a    api.Act
	by   string
	do   call
	e    api.Errno
}

func addDivert(x api.Divert, rename bool) call {
	return func(d *disk.Disk, st api.State) (api.State, api.Errno) { return divert.Add(d, st, x, rename) }
}

func undivert(p, by string, rename bool) call {
	return func(d *disk.Disk, st api.State) (api.State, api.Errno) {
		return divert.Remove(d, st, p, by, rename)
	}
}

func override(x api.Over, force, update bool) call {
	return func(d *disk.Disk, st api.State) (api.State, api.Errno) {
		return statov.Add(d, st, x, force, update)
	}
}

func unoverride(p string) call {
	return func(d *disk.Disk, st api.State) (api.State, api.Errno) { return statov.Remove(d, st, p) }
}

func alternative(a api.Act) call {
	return func(d *disk.Disk, st api.State) (api.State, api.Errno) { return alter.Do(d, st, a) }
}

// fired is what lets triggers be these.
func fired(l ...api.Fired) call {
	return func(d *disk.Disk, st api.State) (api.State, api.Errno) {
		if e := store.Fired(d, l); e != api.OK {
			return st, e
		}
		st.Fired = l
		return st, api.OK
	}
}

// nothing is what leaves all as it is.
func nothing(d *disk.Disk, st api.State) (api.State, api.Errno) { return st, api.OK }

func by(trigger string, l ...string) api.Fired { return api.Fired{Trigger: trigger, By: l} }

// ofAlts is a command that alter does.
func ofAlts(what string, a api.Act, e api.Errno) command {
	return command{what, a, "x", alternative(a), e}
}

// commands are of all kinds. Of the fields that a kind does not have, some are
// set.
func commands() []command {
	slaves := []api.Slave{{Name: "s", Link: "/bin/s"}, {Name: "u", Link: "/bin/u"}}
	over := api.Over{Path: "/b", Meta: other}
	return []command{
		{"divert", api.Act{Kind: api.CDivert, Path: "/a", To: "/c", Flag: true, Force: true, Meta: other, Prio: 3}, "x", addDivert(api.Divert{Path: "/a", To: "/c"}, true), api.OK},
		{"divert, and keep", api.Act{Kind: api.CDivert, Path: "/a", To: "/c"}, "x", addDivert(api.Divert{Path: "/a", To: "/c"}, false), api.OK},
		{"divert by one", api.Act{Kind: api.CDivert, Path: "/a", To: "/c", Name: "y", Flag: true}, "x", addDivert(api.Divert{Path: "/a", To: "/c", By: "y"}, true), api.OK},
		{"divert to no place", api.Act{Kind: api.CDivert, Path: "/a", Flag: true}, "", addDivert(api.Divert{Path: "/a", To: "/a.distrib"}, true), api.OK},
		{"divert by one to no place, and keep", api.Act{Kind: api.CDivert, Path: "/bin/vi", Name: "y"}, "", addDivert(api.Divert{Path: "/bin/vi", To: "/bin/vi.distrib", By: "y"}, false), api.OK},
		{"divert what is", api.Act{Kind: api.CDivert, Path: "/d", To: "/d.moved", Flag: true}, "", nothing, api.OK},
		{"divert to another place", api.Act{Kind: api.CDivert, Path: "/d", Flag: true}, "", addDivert(api.Divert{Path: "/d", To: "/d.distrib"}, true), api.EDIVERT},
		{"divert to where something is", api.Act{Kind: api.CDivert, Path: "/a", To: "/b", Flag: true}, "", addDivert(api.Divert{Path: "/a", To: "/b"}, true), api.EEXIST},
		{"divert a directory", api.Act{Kind: api.CDivert, Path: "/opt", Flag: true}, "", addDivert(api.Divert{Path: "/opt", To: "/opt.distrib"}, true), api.EISDIR},
		{"divert to itself", api.Act{Kind: api.CDivert, Path: "/a", To: "/a"}, "", addDivert(api.Divert{Path: "/a", To: "/a"}, false), api.EARG},
		{"undivert", api.Act{Kind: api.CUndiv, Path: "/d", To: "/e", Flag: true}, "x", undivert("/d", "", true), api.OK},
		{"undivert, and keep", api.Act{Kind: api.CUndiv, Path: "/d"}, "x", undivert("/d", "", false), api.OK},
		{"undivert by one", api.Act{Kind: api.CUndiv, Path: "/p", Name: "x", Flag: true}, "", undivert("/p", "x", true), api.OK},
		{"undivert by another one", api.Act{Kind: api.CUndiv, Path: "/p"}, "x", undivert("/p", "", false), api.EDIVERT},
		{"undivert what is not", api.Act{Kind: api.CUndiv, Path: "/a"}, "x", undivert("/a", "", false), api.ENOENT},
		{"override", api.Act{Kind: api.COver, Path: "/a", Meta: other, To: "/c", Name: "y"}, "x", override(api.Over{Path: "/a", Meta: other}, false, false), api.OK},
		{"override at once", api.Act{Kind: api.COver, Path: "/a", Meta: other, Flag: true}, "x", override(api.Over{Path: "/a", Meta: other}, false, true), api.OK},
		{"override again", api.Act{Kind: api.COver, Path: "/b", Meta: other, Flag: true}, "x", override(over, false, true), api.EEXIST},
		{"override by force", api.Act{Kind: api.COver, Path: "/b", Meta: other, Force: true}, "x", override(over, true, false), api.OK},
		{"override by force at once", api.Act{Kind: api.COver, Path: "/b", Meta: other, Force: true, Flag: true}, "x", override(over, true, true), api.OK},
		{"unoverride", api.Act{Kind: api.CUnover, Path: "/b", Meta: other}, "x", unoverride("/b"), api.OK},
		{"unoverride what is not", api.Act{Kind: api.CUnover, Path: "/a"}, "x", unoverride("/a"), api.ENOENT},
		ofAlts("install", api.Act{Kind: api.CInstall, Name: "ed", To: "/bin/ed", Path: "/opt/a", Prio: -3}, api.OK),
		ofAlts("install with slaves", api.Act{Kind: api.CInstall, Name: "ed", To: "/bin/ed", Path: "/opt/a", Prio: 3, Slaves: slaves, Paths: []string{"/opt/b", ""}}, api.OK),
		ofAlts("install one more", api.Act{Kind: api.CInstall, Name: "vi", To: "/bin/vi", Path: "/opt/c", Prio: 99, Slaves: slaves, Paths: []string{"", "/opt/a"}}, api.OK),
		ofAlts("install another link", api.Act{Kind: api.CInstall, Name: "vi", To: "/bin/ed", Path: "/opt/c"}, api.EALT),
		ofAlts("install what is not", api.Act{Kind: api.CInstall, Name: "vi", To: "/bin/vi", Path: "/opt/none"}, api.ENOENT),
		ofAlts("withdraw", api.Act{Kind: api.CRemove, Name: "vi", Path: "/opt/b"}, api.OK),
		ofAlts("withdraw what is not", api.Act{Kind: api.CRemove, Name: "vi", Path: "/opt/c"}, api.ENOENT),
		ofAlts("remove all", api.Act{Kind: api.CAll, Name: "vi"}, api.OK),
		ofAlts("remove all of none", api.Act{Kind: api.CAll, Name: "ed"}, api.ENOENT),
		ofAlts("set", api.Act{Kind: api.CSet, Name: "vi", Path: "/opt/a"}, api.OK),
		ofAlts("set what is not", api.Act{Kind: api.CSet, Name: "vi", Path: "/opt/c"}, api.ENOENT),
		ofAlts("auto", api.Act{Kind: api.CAuto, Name: "vi"}, api.OK),
		ofAlts("auto of none", api.Act{Kind: api.CAuto, Name: "ed"}, api.ENOENT),
		{"fire", api.Act{Kind: api.CFire, Name: "u", Path: "/a"}, "y", fired(by("/a"), by("t", "x"), by("u", "y")), api.OK},
		{"fire, by nobody", api.Act{Kind: api.CFire, Name: "u", Flag: true}, "y", fired(by("/a"), by("t", "x"), by("u")), api.OK},
		{"fire by an administrator", api.Act{Kind: api.CFire, Name: "u"}, "", fired(by("/a"), by("t", "x"), by("u")), api.OK},
		{"fire once more", api.Act{Kind: api.CFire, Name: "t"}, "y", fired(by("/a"), by("t", "x", "y")), api.OK},
		{"fire what is fired", api.Act{Kind: api.CFire, Name: "t"}, "x", nothing, api.OK},
		{"fire what is fired, by nobody", api.Act{Kind: api.CFire, Name: "t", Flag: true}, "y", nothing, api.OK},
		{"fire by whom there can't be", api.Act{Kind: api.CFire, Name: "t"}, "Y", fired(by("/a"), by("t", "Y", "x")), api.EARG},
	}
}

// held holds a call to what another one does on a twin of its disk, wherever
// power goes off.
func held(t *testing.T, what string, st api.State, want, do call) {
	t.Helper()
	for n := -1; ; n++ {
		d, twin := filled(t, st), filled(t, st)
		d.Fuse(n)
		twin.Fuse(n)
		before := show(st, true)
		is, f := want(twin, st)
		got, e := do(d, st)
		if !same(got, is) || e != f || look(d) != look(twin) {
			t.Fatalf("%s with %d steps: %d, want %d\n%v\nwant\n%v\n%s\nwant\n%s", what, n, e, f, got, is, look(d), look(twin))
		}
		if show(st, true) != before {
			t.Fatalf("%s changed what it was given: %s", what, show(st, true))
		}
		if n >= 0 && d.On() {
			return
		}
	}
}

// done is Do of a command as a call.
func (c command) done(d *disk.Disk, st api.State) (api.State, api.Errno) {
	return run.Do(d, st, c.a, c.by)
}

// P23.1

func TestDo(t *testing.T) {
	t.Parallel()
	for _, c := range commands() {
		st, a := given(), spared(c.a)
		held(t, c.what, st, c.do, func(d *disk.Disk, st api.State) (api.State, api.Errno) { return run.Do(d, st, a, c.by) })
		if show(a, true) != show(spared(c.a), true) {
			t.Errorf("%s: the command was changed: %v", c.what, a)
		}
		d := filled(t, st)
		got, e := c.done(d, st)
		if e != c.e || e != api.OK && !same(got, st) || !same(loads(t, d), got) {
			t.Errorf("%s: %v %d, want %d", c.what, got, e, c.e)
		}
	}
}

// A command that may not be is refused ahead of all else, whatever its kind.
func TestDoWrong(t *testing.T) {
	t.Parallel()
	long := "/" + strings.Repeat("a", api.MaxPath-1)
	wrong := []api.Act{
		{}, {Kind: 11, Name: "vi", Path: "/a"}, {Kind: -1}, {Kind: api.CDivert}, {Kind: api.CDivert, Path: "/"}, {Kind: api.CDivert, Path: "/a", To: "c"},
		{Kind: api.CDivert, Path: "/a", To: "/var/lib/dpkg/status"}, {Kind: api.CDivert, Path: "/a", To: "/c.dpkg-new"}, {Kind: api.CDivert, Path: "/a", To: "/c", Name: "-"},
		{Kind: api.CUndiv, Path: "/etc/alternatives/vi"}, {Kind: api.CUndiv, Path: "/d", Name: "A"}, {Kind: api.COver, Path: "/a", Meta: api.Meta{Mode: 4096}}, {Kind: api.COver, Path: "/"},
		{Kind: api.CUnover, Path: "b"}, {Kind: api.CInstall, Name: "ed", To: "/bin/ed"}, {Kind: api.CInstall, Name: "ed.dpkg-tmp", To: "/bin/ed", Path: "/opt/a"},
		{Kind: api.CInstall, Name: "ed", To: long, Path: "/opt/a"}, {Kind: api.CInstall, Name: "ed", To: "/bin/ed", Path: "/opt/a", Paths: []string{""}},
		{Kind: api.CRemove, Name: "vi"}, {Kind: api.CAll}, {Kind: api.CSet, Path: "/opt/a"}, {Kind: api.CAuto, Name: "/vi"}, {Kind: api.CFire}, {Kind: api.CFire, Name: "T"},
		// Where the path with .distrib behind it is no place.
		{Kind: api.CDivert, Path: long}, {Kind: api.CDivert, Path: long[:193], Name: "x", Flag: true},
	}
	for _, a := range wrong {
		d, st := filled(t, given()), given()
		for _, d := range append(without(t), d) {
			before := look(d)
			if got, e := run.Do(d, st, a, "x"); e != api.EARG || !same(got, st) || look(d) != before {
				t.Errorf("%v: %v %d", a, got, e)
			}
		}
	}
	d, st := filled(t, given()), given()
	got, e := run.Do(d, st, api.Act{Kind: api.CDivert, Path: long[:192]}, "x")
	if e != api.OK || got.Diverts[0] != (api.Divert{Path: long[:192], To: long[:192] + ".distrib"}) {
		t.Errorf("the longest path: %v %d", got, e)
	}
	if got, e := run.Do(filled(t, given()), st, api.Act{Kind: api.CDivert, Path: long, To: "/c"}, "x"); e != api.OK || len(got.Diverts) != 3 {
		t.Errorf("the longest path to a place: %v %d", got, e)
	}
}

// without are disks on which nothing can be done: none, one that no call made,
// and one without power.
func without(t *testing.T) []*disk.Disk {
	off := filled(t, given())
	off.Fuse(0)
	off.Sync("/")
	return []*disk.Disk{nil, {}, off}
}

func TestDoWithout(t *testing.T) {
	t.Parallel()
	for _, c := range commands() {
		d := filled(t, given())
		steps := d.Steps()
		c.done(d, given())
		acts := d.Steps() > steps
		for i, d := range without(t) {
			st := given()
			before := look(d)
			got, e := c.done(d, st)
			want, f := c.do(d, st)
			if e != f || !same(got, want) || !same(got, st) || look(d) != before {
				t.Errorf("%s on %d: %v %d, want %d", c.what, i, got, e, f)
			}
			if e == api.OK && acts {
				t.Errorf("%s on %d was done", c.what, i)
			}
		}
	}
}

// P23.2

func TestFire(t *testing.T) {
	t.Parallel()
	st := func(l ...api.Fired) api.State {
		st := given()
		st.Fired = spared(l)
		return st
	}
	for _, c := range []struct {
		what     string
		had      []api.Fired
		triggers []string
		by       string
		want     []api.Fired
		steps    int
		e        api.Errno
	}{
		{"none", nil, nil, "x", nil, 0, api.OK},
		{"none of some", []api.Fired{by("t")}, []string{}, "x", []api.Fired{by("t")}, 0, api.OK},
		{"one", nil, []string{"t"}, "x", []api.Fired{by("t", "x")}, fires, api.OK},
		{"one by nobody", nil, []string{"t"}, "", []api.Fired{by("t")}, fires, api.OK},
		{"one that was", []api.Fired{by("t", "x")}, []string{"t"}, "x", []api.Fired{by("t", "x")}, 0, api.OK},
		{"one that was by others too", []api.Fired{by("t", "a", "x", "z")}, []string{"t"}, "x", []api.Fired{by("t", "a", "x", "z")}, 0, api.OK},
		{"one that was, by nobody", []api.Fired{by("t", "x")}, []string{"t"}, "", []api.Fired{by("t", "x")}, 0, api.OK},
		{"one that was by nobody, by nobody", []api.Fired{by("t")}, []string{"t", "t"}, "", []api.Fired{by("t")}, 0, api.OK},
		{"one that was by nobody", []api.Fired{by("t")}, []string{"t"}, "x", []api.Fired{by("t", "x")}, fires, api.OK},
		{"one that was by another one", []api.Fired{by("t", "x")}, []string{"t"}, "b", []api.Fired{by("t", "b", "x")}, fires, api.OK},
		{"one twice", nil, []string{"t", "t"}, "x", []api.Fired{by("t", "x")}, fires, api.OK},
		{"many in any order", []api.Fired{by("c", "y")}, []string{"d", "/a", "c", "b", "d"}, "x", []api.Fired{by("/a", "x"), by("b", "x"), by("c", "x", "y"), by("d", "x")}, fires, api.OK},
		{"all that were", []api.Fired{by("/a", "x"), by("b", "x", "y"), by("c")}, []string{"b", "/a"}, "x", []api.Fired{by("/a", "x"), by("b", "x", "y"), by("c")}, 0, api.OK},
		{"all but one that were", []api.Fired{by("/a", "x"), by("b", "x", "y"), by("c")}, []string{"b", "c", "/a"}, "x", []api.Fired{by("/a", "x"), by("b", "x", "y"), by("c", "x")}, fires, api.OK},
		// What can't be written
		{"no trigger", []api.Fired{by("b")}, []string{"T"}, "x", nil, 0, api.EARG},
		{"an empty one", []api.Fired{by("b")}, []string{""}, "x", nil, 0, api.EARG},
		{"no name", []api.Fired{by("b")}, []string{"b"}, "X", nil, 0, api.EARG},
		{"too many", manyFired(64), []string{"zz"}, "x", nil, 0, api.EFULL},
		{"one of many", manyFired(64), []string{"a00"}, "x", append([]api.Fired{by("a00", "x")}, manyFired(64)[1:]...), fires, api.OK},
		{"too many by", []api.Fired{by("b", manyNames(64)...)}, []string{"b"}, "zz", nil, 0, api.EFULL},
		{"by one of many", []api.Fired{by("b", manyNames(64)...)}, []string{"b"}, "a00", []api.Fired{by("b", manyNames(64)...)}, 0, api.OK},
		// What was, and can't be
		{"fired what was, of what can't be", []api.Fired{by("b"), by("B")}, []string{"b"}, "", nil, 0, api.EARG},
		{"fired what was, in a wrong order", []api.Fired{by("b"), by("a")}, []string{"b"}, "", nil, 0, api.EARG},
		{"fired what was, by too many", []api.Fired{by("b", manyNames(65)...)}, []string{"b"}, "", nil, 0, api.EFULL},
		{"fired nothing, of what can't be", []api.Fired{by("b"), by("a")}, nil, "x", []api.Fired{by("b"), by("a")}, 0, api.OK},
		{"put in order", []api.Fired{by("b", "z", "y")}, []string{"b"}, "x", []api.Fired{by("b", "x", "y", "z")}, fires, api.OK},
	} {
		st := st(c.had...)
		want := st
		if c.e == api.OK {
			want.Fired = c.want
		}
		d, triggers := filled(t, given()), spared(c.triggers)
		before := show([]any{st, triggers}, true)
		steps, image := d.Steps(), look(d)
		got, e := run.Fire(d, st, triggers, c.by)
		if !same(got, want) || e != c.e || d.Steps()-steps != c.steps || d.Pending() > 0 {
			t.Errorf("%s: %v %d, want %v %d, in %d steps", c.what, got.Fired, e, want.Fired, c.e, d.Steps()-steps)
		}
		if c.steps == 0 && look(d) != image {
			t.Errorf("%s: something was done", c.what)
		}
		if c.steps > 0 && !same(loads(t, d).Fired, c.want) {
			t.Errorf("%s: %v", c.what, loads(t, d).Fired)
		}
		if show([]any{st, triggers}, true) != before {
			t.Errorf("%s changed what it was given", c.what)
		}
		fireWithout(t, c.what, st, c.triggers, c.by, c.steps > 0, c.e)
	}
}

// fireWithout fires where nothing can be done.
func fireWithout(t *testing.T, what string, st api.State, triggers []string, by string, writes bool, e api.Errno) {
	t.Helper()
	for i, d := range without(t) {
		want := e
		if writes {
			want = []api.Errno{api.ENIL, api.ENIL, api.EOFF}[i]
		}
		if got, f := run.Fire(d, st, triggers, by); !same(got, st) || f != want {
			t.Errorf("%s on %d: %v %d, want %d", what, i, got.Fired, f, want)
		}
	}
}

func manyNames(n int) []string {
	var out []string
	for i := range n {
		out = append(out, fmt.Sprintf("a%02d", i))
	}
	return out
}

func manyFired(n int) []api.Fired {
	var out []api.Fired
	for _, s := range manyNames(n) {
		out = append(out, by(s))
	}
	return out
}

// Where power goes off, or a limit is, the state that was given is answered.
func TestFireEnds(t *testing.T) {
	t.Parallel()
	for n := range fires {
		d, st := filled(t, given()), given()
		d.Fuse(n)
		if got, e := run.Fire(d, st, []string{"u"}, "y"); e != api.EOFF || !same(got, st) {
			t.Errorf("with %d steps: %v %d", n, got.Fired, e)
		}
	}
	d, st := filled(t, given()), given()
	d.Bound(api.Limits{Files: len(d.Image())})
	if got, e := run.Fire(d, st, []string{"u"}, "y"); e != api.ENFILE || !same(got, st) || !same(loads(t, d), st) {
		t.Errorf("without room: %v %d", got.Fired, e)
	}
}

// P23.3

var (
	over   = api.Act{Kind: api.COver, Path: "/a", Meta: other}
	unover = api.Act{Kind: api.CUnover, Path: "/b"}
	fire   = api.Act{Kind: api.CFire, Name: "t"}
	lost   = api.Act{Kind: api.CUnover, Path: "/none"}
	wrong  = api.Act{Kind: api.CUnover}
)

func acts(l ...api.Act) []api.Act { return l }

func TestScript(t *testing.T) {
	t.Parallel()
	for _, c := range []struct {
		what  string
		l     []api.Act
		done  int // commands that are done
		codes []int
		left  []int
		e     api.Errno
	}{
		{"nothing", nil, 0, nil, nil, api.OK},
		{"nothing, a code", nil, 0, []int{0}, nil, api.OK},
		{"nothing, codes", nil, 0, []int{0, 5, 0}, []int{5, 0}, api.OK},
		{"nothing, a wrong code", nil, 0, []int{1}, nil, api.ESCRIPT}, // the chapter's example
		{"nothing, wrong codes", nil, 0, []int{255, 0, 3}, []int{0, 3}, api.ESCRIPT},
		{"nothing, a code below 0", nil, 0, []int{-1, 1}, []int{1}, api.ESCRIPT},
		{"one", acts(over), 1, nil, nil, api.OK},
		{"one, codes", acts(over), 1, []int{0, 1}, []int{1}, api.OK},
		{"one, wrong codes", acts(over), 1, []int{2, 0}, []int{0}, api.ESCRIPT},
		{"some", acts(over, fire, unover), 3, []int{0, 0}, []int{0}, api.OK},
		{"some, a wrong code", acts(over, fire, unover), 3, []int{7}, nil, api.ESCRIPT},
		{"one again", acts(over, over), 1, []int{0, 0}, []int{0, 0}, api.ESCRIPT},
		{"with what the one before did", acts(over, api.Act{Kind: api.CUnover, Path: "/a"}, unover, unover), 3, []int{0, 1}, []int{0, 1}, api.ESCRIPT},
		{"an error first", acts(lost, over), 0, []int{0, 1}, []int{0, 1}, api.ESCRIPT},
		{"an error last", acts(over, fire, lost), 2, []int{5}, []int{5}, api.ESCRIPT},
		{"an error without codes", acts(over, lost), 1, nil, nil, api.ESCRIPT},
		{"what may not be", acts(over, wrong, unover), 1, []int{0}, []int{0}, api.ESCRIPT},
	} {
		for _, by := range []string{"y", ""} {
			scripted(t, c.what, c.l, by, c.done, c.codes, c.left, c.e)
		}
	}
}

// scripted holds a script to the commands of it that are done, wherever power
// goes off.
func scripted(t *testing.T, what string, l []api.Act, by string, done int, codes, left []int, want api.Errno) {
	t.Helper()
	for n := 0; ; n++ {
		st, d, twin := given(), filled(t, given()), filled(t, given())
		l, codes := spared(l), spared(codes)
		before := show([]any{st, l, codes}, true)
		d.Fuse(n)
		twin.Fuse(n)
		is, e := st, api.OK
		for _, a := range l[:done] {
			if is, e = run.Do(twin, is, a, by); e != api.OK {
				break
			}
		}
		left, want := left, want
		if e == api.EOFF {
			left, want = codes, e
		}
		got, rest, f := run.Script(d, st, l, by, codes)
		if !same(got, is) || f != want || !slices.Equal(rest, left) || look(d) != look(twin) {
			t.Errorf("%s with %d steps: %v %v %d, want %v %v %d", what, n, got, rest, f, is, left, want)
		}
		if show([]any{st, l, codes}, true) != before {
			t.Errorf("%s changed what it was given", what)
		}
		if d.On() {
			return
		}
	}
}

func TestScriptWithout(t *testing.T) {
	t.Parallel()
	for i, d := range without(t) {
		st, want := given(), []api.Errno{api.ESCRIPT, api.ESCRIPT, api.EOFF}[i]
		if got, left, e := run.Script(d, st, acts(over), "x", []int{1}); !same(got, st) || !slices.Equal(left, []int{1}) || e != want {
			t.Errorf("on %d: %v %v %d, want %d", i, got, left, e, want)
		}
		// Where nothing is to be done, nothing is lacking.
		if got, left, e := run.Script(d, st, nil, "x", []int{0, 1}); !same(got, st) || !slices.Equal(left, []int{1}) || e != api.OK {
			t.Errorf("of nothing on %d: %v %v %d", i, got, left, e)
		}
		if _, _, e := run.Script(d, st, acts(api.Act{Kind: api.CFire, Name: "t"}), "x", nil); e != api.OK {
			t.Errorf("of what was fired on %d: %d", i, e)
		}
	}
	// A limit lets a script fail.
	d, st := filled(t, given()), given()
	d.Bound(api.Limits{Files: len(d.Image())})
	if got, left, e := run.Script(d, st, acts(over), "x", []int{0}); !same(got, st) || len(left) != 1 || e != api.ESCRIPT {
		t.Errorf("without room: %v %v %d", got, left, e)
	}
}

// P23.4

// Whatever is kept when power goes off, and wherever, the databases are as
// before or as afterwards, and as afterwards if that was answered.
func TestAtOnce(t *testing.T) {
	t.Parallel()
	for _, c := range commands() {
		if c.e != api.OK {
			continue
		}
		before := given()
		d := filled(t, before)
		_, e := c.done(d, before)
		must(t, e)
		after := loads(t, d)
		befores, afters := 0, 0
		for n := 0; ; n++ {
			d := filled(t, before)
			d.Fuse(n)
			_, e := c.done(d, before)
			for keep := range d.Pending() + 1 {
				for _, cut := range []int{0, 1, -1} {
					d := filled(t, before)
					d.Fuse(n)
					c.done(d, before)
					d.Crash(keep, []int{cut, cut})
					switch got := loads(t, d); {
					case same(got, after):
						afters++
					case same(got, before) && e != api.OK:
						befores++
					default:
						t.Fatalf("%s with %d steps, %d kept, %d of a text: %v", c.what, n, keep, cut, got)
					}
				}
			}
			if d.On() {
				break
			}
		}
		if !same(before, after) && (befores == 0 || afters == 0) {
			t.Errorf("%s: %d times as before, %d as afterwards", c.what, befores, afters)
		}
	}
}

// With an error other than that there is no power, the databases are as before,
// whichever limit it is, and wherever it strikes.
func TestLimits(t *testing.T) {
	t.Parallel()
	struck := map[api.Errno]int{}
	for _, c := range commands() {
		bounds := []api.Limits{{}}
		d := filled(t, given())
		size := 0
		for _, x := range d.Image() {
			size += len(x.Text)
		}
		for n := range 30 {
			bounds = append(bounds, api.Limits{Bytes: size + 11*n}, api.Limits{Name: 1 + n/2})
		}
		for n := range 6 {
			bounds = append(bounds, api.Limits{Files: len(d.Image()) + n})
		}
		for _, limits := range bounds {
			d, st := filled(t, given()), given()
			d.Bound(limits)
			got, e := c.done(d, st)
			struck[e]++
			if e != api.OK && !same(got, st) || !same(loads(t, d), got) {
				t.Fatalf("%s with %v: %v %d", c.what, limits, loads(t, d), e)
			}
		}
	}
	for _, e := range []api.Errno{api.ENOSPC, api.ENFILE, api.ELONG} {
		if struck[e] < 20 {
			t.Errorf("%d times %d: %v", struck[e], e, struck)
		}
	}
}

// What is fired is what trigs says: Fire is held to it beside the table.
func TestFireIsOfTrigs(t *testing.T) {
	t.Parallel()
	for _, by := range []string{"", "b", "x"} {
		for i := range 64 {
			st := given()
			want := st.Fired
			var triggers []string
			for n, s := range []string{"u", "/a", "t", "b", "/a/b", "z"} {
				if i>>n&1 > 0 {
					triggers = append(triggers, s)
					want = trigs.Fire(want, s, by)
				}
			}
			d := filled(t, st)
			got, e := run.Fire(d, st, triggers, by)
			if e != api.OK || !same(got.Fired, want) || !same(loads(t, d), got) {
				t.Errorf("%v by %q: %v %d, want %v", triggers, by, got.Fired, e, want)
			}
		}
	}
}

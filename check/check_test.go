package check_test

import (
	"fmt"
	"math/rand/v2"
	"slices"
	"strings"
	"testing"

	"cellarer/api"
	"cellarer/check"
	"cellarer/divs"
	"cellarer/lists"
	"cellarer/relation"
)

func record(name, v string, state int) api.Record {
	return api.Record{Name: name, Version: v, State: state}
}

// needs is a record that depends on groups, as a text.
func needs(x api.Record, depends string) api.Record {
	l, e := relation.ParseAll(depends)
	if e != api.OK {
		panic(depends)
	}
	x.Depends = l
	return x
}

func conflicts(s string) []api.Rel {
	l, e := relation.ParseList(s)
	if e != api.OK {
		panic(s)
	}
	return l
}

func against(x api.Record, s string) api.Record {
	x.Conflicts = conflicts(s)
	return x
}

func list(name string, paths ...string) api.List { return api.List{Name: name, Paths: paths} }

// files is those of paths; what ends with a slash is a directory.
func files(paths ...string) []api.File {
	var out []api.File
	for _, p := range paths {
		if dir, ok := strings.CutSuffix(p, "/"); ok {
			out = append(out, api.File{Path: dir, Kind: api.KDir})
			continue
		}
		out = append(out, api.File{Path: p, Kind: api.KFile})
	}
	return out
}

// kept holds that a call changes none of what it is given.
func kept(t *testing.T, call func(), given ...any) {
	t.Helper()
	before := fmt.Sprintf("%#v", given)
	call()
	if got := fmt.Sprintf("%#v", given); got != before {
		t.Errorf("%s became %s", before, got)
	}
}

// holds takes lists that are nil and empty as equal, within lists too.
func holds[T any](t *testing.T, what string, got, want []T) {
	t.Helper()
	if len(got) != len(want) || fmt.Sprint(got) != fmt.Sprint(want) {
		t.Errorf("%s: %v, want %v", what, got, want)
	}
}

// P20.1

// ofStates has a package of each state, and of some that are none.
func ofStates() []api.Record {
	var out []api.Record
	for state := -1; state <= 8; state++ {
		out = append(out, record(fmt.Sprintf("s%d", state), fmt.Sprintf("1.%d", state+1), state))
	}
	return out
}

func TestThere(t *testing.T) {
	rel := func(name, v string) api.Rel { return api.Rel{Name: name, Version: v} }
	holds(t, "of none", check.There(nil), nil)
	holds(t, "of each state", check.There(ofStates()), []api.Rel{rel("s6", "1.7"), rel("s7", "1.8")})
	l := []api.Record{
		record("b", "2", api.SInstalled), record("a", "1", api.SPending), record("b", "2", api.SInstalled), record("c", "x", api.SAwaited),
		needs(against(record("", "", api.SPending), "a"), "b"),
	}
	kept(t, func() {
		holds(t, "in order", check.There(l), []api.Rel{rel("b", "2"), rel("a", "1"), rel("b", "2"), rel("", "")})
	}, l)
}

func TestMissing(t *testing.T) {
	st := api.State{Records: append(ofStates(), record("a", "2", api.SInstalled), record("b", "1", api.SPending), record("c", "1", api.SAwaited))}
	for _, c := range []struct {
		depends string
		want    []int
	}{
		{"", nil},
		{"a", nil},
		{"b", nil},
		{"c", []int{0}},
		{"d", []int{0}},
		{"a, c, b, d", []int{1, 3}},
		{"c | a, d | c, b", []int{1}},
		{"a (>= 2), a (>> 2), a (= 1), b (<< 2)", []int{1, 2}},
		{"s1, s2, s3, s4, s5, s6, s7", []int{0, 1, 2, 3, 4}},
	} {
		l := needs(api.Record{}, c.depends).Depends
		kept(t, func() { holds(t, c.depends, check.Missing(st, l), c.want) }, st, l)
	}
	holds(t, "an empty group", check.Missing(st, [][]api.Rel{{}, {{Name: "a"}}, {}}), []int{0, 2})
	holds(t, "of an empty state", check.Missing(api.State{}, [][]api.Rel{{{Name: "a"}}}), []int{0})
}

// P20.2

func TestConflicts(t *testing.T) {
	x := api.Package{Name: "x", Version: "2", Conflicts: conflicts("a (>= 2), b, x, s1, s2, s3, s4, s5, s6, s7")}
	for _, c := range []struct {
		what string
		l    []api.Record
		want []string
	}{
		{"none", nil, nil},
		{"each state", ofStates()[2:9], []string{"s2", "s3", "s4", "s5", "s6", "s7"}},
		{"a version that fits", []api.Record{record("a", "2", api.SInstalled)}, []string{"a"}},
		{"a version that does not", []api.Record{record("a", "1", api.SInstalled)}, nil},
		{"in order", []api.Record{record("b", "1", api.SInstalled), record("c", "1", api.SInstalled), record("a", "3", api.SInstalled)}, []string{"b", "a"}},
		{"one of its name", []api.Record{record("x", "1", api.SInstalled), against(record("x", "2", api.SInstalled), "x")}, nil},
		{"the other way", []api.Record{against(record("c", "1", api.SInstalled), "d, x")}, []string{"c"}},
		{"the other way, of a version that fits", []api.Record{against(record("c", "1", api.SUnpacked), "x (= 2)")}, []string{"c"}},
		{"the other way, of a version that does not", []api.Record{against(record("c", "2", api.SInstalled), "x (<< 2), x (>> 2)")}, nil},
		{"the other way, of conffiles", []api.Record{against(record("c", "1", api.SConfig), "x")}, nil},
		{"both ways", []api.Record{against(record("b", "1", api.SHalfConf), "x")}, []string{"b"}},
		{"conffiles, both ways", []api.Record{against(record("b", "1", api.SConfig), "x")}, nil},
		{"no state", []api.Record{record("b", "1", 0), record("b", "1", 9), record("b", "1", api.SConfig)}, []string{"b", "b"}},
		{"with another one", []api.Record{against(record("c", "1", api.SInstalled), "b"), record("d", "1", api.SInstalled)}, nil},
		{"what it needs", []api.Record{needs(record("c", "1", api.SInstalled), "x")}, nil},
	} {
		st := api.State{Records: c.l}
		kept(t, func() { holds(t, c.what, check.Conflicts(st, x), c.want) }, st, x)
	}
	all := api.State{Records: ofStates()}
	holds(t, "none of its own", check.Conflicts(all, api.Package{Name: "x", Version: "2"}), nil)
}

// P20.3

// owning is lists, and diversions of some of their paths.
func owning() api.State {
	return api.State{
		Diverts: []api.Divert{{Path: "/a", To: "/a.real", By: "d"}, {Path: "/b", To: "/b.local"}, {Path: "/n", To: "/bin/n", By: "x"}},
		Lists: []api.List{
			list("d", "/a", "/b", "/bin", "/d"),
			list("e", "/a", "/bin", "/bin/n", "/e"),
			list("f", "/a.real", "/b.local", "/n"),
			list("x", "/a", "/e", "/x"),
		},
	}
}

func TestOwned(t *testing.T) {
	for _, c := range []struct {
		what, name, replaces, files string
		want                        []string
	}{
		{"nothing", "x", "", "", nil},
		{"nobody's", "x", "", "/none /bin/none /z/", nil},
		{"one's", "x", "", "/d", []string{"d"}},
		{"one's, as a directory", "x", "", "/d/ /e/ /bin/", nil},
		{"one's directory, as a file", "x", "", "/bin", []string{"d", "e"}},
		{"its own", "x", "", "/x", nil},
		{"its own and another one's", "x", "", "/e /x", []string{"e"}},
		{"of some", "y", "", "/x /d /e", []string{"d", "e", "x"}},
		{"of one, twice", "x", "", "/d /bin/ /bin/n /e", []string{"d", "e", "f"}},
		{"one that it replaces", "x", "d", "/d /e", []string{"e"}},
		{"all that it replaces", "x", "e d", "/d /e", nil},
		{"what it replaces, of another name", "x", "dd D", "/d", []string{"d"}},
		// Of d /a is at /a, of all others at /a.real.
		{"what was diverted", "x", "", "/a", []string{"e", "f"}},
		{"where it was diverted to", "x", "", "/a.real", []string{"e", "f"}},
		{"one's own diversion", "d", "", "/a", nil},
		{"behind one's own diversion", "d", "", "/a.real", []string{"e", "f", "x"}},
		{"the other way around", "e", "", "/a", []string{"f", "x"}},
		// Of nobody /b is at /b.
		{"a local diversion", "x", "", "/b", []string{"d", "f"}},
		{"its end", "x", "", "/b.local", []string{"d", "f"}},
		// Of x /n is at /n, of all others at /bin/n.
		{"a diversion of its own", "x", "", "/n", nil},
		{"its own diversion's end", "x", "", "/bin/n", []string{"e", "f"}},
		{"of others", "y", "", "/n", []string{"e", "f"}},
	} {
		x := api.Package{Name: c.name, Replaces: strings.Fields(c.replaces), Files: files(strings.Fields(c.files)...)}
		st := owning()
		kept(t, func() { holds(t, c.what, check.Owned(st, x), c.want) }, st, x)
	}
}

func TestOwnedOfAnyLists(t *testing.T) {
	// Names fall, and one is there twice.
	st := api.State{Lists: []api.List{list("c", "/c"), list("b", "/b", "/b"), list("c", "/a"), list("a", "/a"), list("")}}
	x := api.Package{Name: "x", Files: files("/c", "/b", "/a", "/c")}
	holds(t, "ascending", check.Owned(st, x), []string{"a", "b", "c"})
	x.Files[0].Kind, x.Files[1].Kind = api.KLink, 0
	holds(t, "of links and no kind", check.Owned(st, x), []string{"a", "b", "c"})
	holds(t, "one of two of a name", check.Owned(st, api.Package{Files: files("/a")}), []string{"a", "c"})
	holds(t, "of no package", check.Owned(st, api.Package{}), nil)
	// A text that would run into another one is another pair.
	st = api.State{Lists: []api.List{list("b", "/a"), list("ab", "/")}}
	holds(t, "a pair", check.Owned(st, api.Package{Name: "x", Files: files("/a")}), []string{"b"})
}

func TestLost(t *testing.T) {
	for _, c := range []struct {
		what, name, replaces, files string
		want                        []api.List
	}{
		{"nothing", "x", "", "", nil},
		{"what it does not replace", "x", "", "/d /e", nil},
		{"of one", "x", "d", "/d /e", []api.List{list("d", "/d")}},
		{"of one of another name", "x", "dd", "/d", nil},
		{"no files of it", "x", "d", "/e /none", nil},
		{"of some, in the lists' order", "x", "f e e d g", "/bin/n /e /d", []api.List{list("d", "/d"), list("e", "/bin/n", "/e"), list("f", "/n")}},
		{"directories", "x", "d e", "/bin/ /d/ /e", []api.List{list("e", "/e")}},
		{"a directory, for a file", "x", "d e", "/bin", []api.List{list("d", "/bin"), list("e", "/bin")}},
		{"its own", "x", "x d", "/a /x /e", nil},
		{"its own and another one's", "x", "x e", "/a /x /e", []api.List{list("e", "/a", "/e")}},
		{"what was diverted", "x", "d e f", "/a", []api.List{list("e", "/a"), list("f", "/a.real")}},
		{"one's own diversion", "d", "e f x", "/a", nil},
		{"behind one's own diversion", "d", "e f x", "/a.real", []api.List{list("e", "/a"), list("f", "/a.real"), list("x", "/a")}},
		{"a local diversion", "x", "d f", "/b", []api.List{list("d", "/b"), list("f", "/b.local")}},
		{"a diversion of its own", "x", "e f", "/n", nil},
		{"its own diversion's end", "x", "e f", "/bin/n", []api.List{list("e", "/bin/n"), list("f", "/n")}},
	} {
		x := api.Package{Name: c.name, Replaces: strings.Fields(c.replaces), Files: files(strings.Fields(c.files)...)}
		st := owning()
		kept(t, func() { holds(t, c.what, check.Lost(st, x), c.want) }, st, x)
	}
}

func TestLostOfAnyLists(t *testing.T) {
	st := api.State{Lists: []api.List{list("c", "/c", "/a", "/b", "/c"), list("b", "/z"), list("c", "/a"), list("b", "/b"), list("a", "/a")}}
	x := api.Package{Name: "x", Replaces: []string{"a", "b", "c"}, Files: files("/c", "/b", "/a", "/a")}
	holds(t, "the first of a name", check.Lost(st, x), []api.List{list("c", "/c", "/a", "/b", "/c"), list("a", "/a")})
	x.Files[0].Kind, x.Files[1].Kind, x.Files[2].Kind, x.Files[3].Kind = api.KLink, 0, api.KDir, api.KDir
	holds(t, "of links and no kind", check.Lost(st, x), []api.List{list("c", "/c", "/b", "/c")})
	holds(t, "of no package", check.Lost(st, api.Package{}), nil)
}

func TestTaken(t *testing.T) {
	for _, c := range []struct {
		at, but string
		want    bool
	}{
		{"/d", "", true}, {"/d", "d", false}, {"/d", "e", true}, {"/d", "D", true},
		{"/bin", "d", true}, {"/bin", "e", true},
		{"/none", "", false}, {"", "", false}, {"/d/", "", false}, {"/", "x", false},
		{"/a", "", true}, {"/a", "d", false}, {"/a", "e", true},
		{"/a.real", "", true}, {"/a.real", "e", true}, {"/a.real", "d", true},
		{"/b", "", false}, {"/b", "x", false}, {"/b.local", "d", true}, {"/b.local", "f", true},
		{"/n", "", false}, {"/bin/n", "e", true}, {"/bin/n", "f", true},
		{"/e", "e", true}, {"/e", "x", true}, {"/x", "x", false}, {"/x", "e", true},
	} {
		st := owning()
		kept(t, func() {
			if got := check.Taken(st, c.at, c.but); got != c.want {
				t.Errorf("Taken(%q, %q): %v", c.at, c.but, got)
			}
		}, st)
	}
	// Two lists of a name, and one of an empty one.
	st := api.State{Lists: []api.List{list("a", "/a"), list("a", "/b"), list("", "/c")}}
	for at, but := range map[string]string{"/a": "a", "/b": "a", "/c": ""} {
		if check.Taken(st, at, but) || !check.Taken(st, at, "b") {
			t.Errorf("Taken(%q, %q)", at, but)
		}
	}
	if check.Taken(api.State{}, "", "") {
		t.Error("Taken in an empty state")
	}
}

// P20.4

func TestNeeded(t *testing.T) {
	const in, pending, awaited = api.SInstalled, api.SPending, api.SAwaited
	for _, c := range []struct {
		what string
		l    []api.Record
		want []string
	}{
		{"none", nil, nil},
		{"not there", []api.Record{needs(record("b", "1", in), "a")}, nil},
		{"one needs it", []api.Record{record("a", "1", in), needs(record("b", "1", in), "a")}, []string{"b"}},
		{"pending", []api.Record{record("a", "1", pending), needs(record("b", "1", in), "a")}, []string{"b"}},
		{"awaited, so lacking before", []api.Record{record("a", "1", awaited), needs(record("b", "1", in), "a")}, nil},
		{"unpacked, so lacking before", []api.Record{record("a", "1", api.SUnpacked), needs(record("b", "1", in), "a")}, nil},
		{"who needs nothing", []api.Record{record("a", "1", in), record("b", "1", in)}, nil},
		{"who needs others", []api.Record{record("a", "1", in), needs(record("b", "1", in), "c")}, nil},
		{"who needs another version", []api.Record{record("a", "1", in), needs(record("b", "1", in), "a (>> 1)")}, nil},
		{"who needs its version", []api.Record{record("a", "1", in), needs(record("b", "1", in), "c | a (<= 1)")}, []string{"b"}},
		{"who has another one", []api.Record{record("a", "1", in), needs(record("b", "1", in), "a | c"), record("c", "1", in)}, nil},
		{"who lacks more", []api.Record{record("a", "1", in), needs(record("b", "1", in), "x, a, y")}, []string{"b"}},
		{"in order", []api.Record{needs(record("c", "1", in), "a"), needs(record("z", "1", in), "z"), record("a", "1", in), needs(record("b", "1", in), "a")}, []string{"c", "b"}},
		{"itself", []api.Record{needs(record("a", "1", in), "a")}, nil},
		{"all states", []api.Record{
			record("a", "1", in), needs(record("s0", "1", 0), "a"), needs(record("s1", "1", 1), "a"), needs(record("s2", "1", 2), "a"), needs(record("s3", "1", 3), "a"),
			needs(record("s4", "1", 4), "a"), needs(record("s5", "1", 5), "a"), needs(record("s6", "1", 6), "a"), needs(record("s7", "1", 7), "a"), needs(record("s8", "1", 8), "a"),
		}, []string{"s5", "s6", "s7"}},
		{"of others, too", []api.Record{record("a", "1", in), needs(record("b", "1", in), "a"), needs(record("c", "1", in), "b")}, []string{"b"}},
		{"all of its name", []api.Record{record("a", "1", in), needs(record("b", "1", in), "a"), needs(record("a", "2", in), "a (= 1)")}, []string{"b"}},
		{"who conflicts", []api.Record{record("a", "1", in), against(record("b", "1", in), "a")}, nil},
	} {
		st := api.State{Records: c.l}
		kept(t, func() { holds(t, c.what, check.Needed(st, "a"), c.want) }, st)
	}
	st := api.State{Records: []api.Record{record("", "1", in), {Name: "b", State: in, Depends: [][]api.Rel{{{Name: ""}}, {}}}}}
	holds(t, "an empty name", check.Needed(st, ""), []string{"b"})
}

// All of it, held against the words of the document, one by one.

// random has few names, paths and versions, so that they meet.
type random struct{ *rand.Rand }

func (r random) pick(l ...string) string { return l[r.IntN(len(l))] }

func (r random) name() string { return r.pick("a", "b", "c", "d", "") }

func (r random) path() string { return r.pick("/a", "/b", "/c", "/d", "/e") }

func (r random) version() string { return r.pick("1", "2", "3") }

func (r random) rel() api.Rel {
	x := api.Rel{Name: r.name()}
	if x.Op = r.pick("", "<<", ">=", "=", "?"); x.Op != "" {
		x.Version = r.version()
	}
	return x
}

func some[T any](r random, n int, one func() T) []T {
	var out []T
	for range r.IntN(n) {
		out = append(out, one())
	}
	return out
}

func (r random) state() api.State {
	return api.State{
		Records: some(r, 7, func() api.Record {
			return api.Record{
				Name: r.name(), Version: r.version(), State: max(r.IntN(9), r.IntN(8)), Conflicts: some(r, 3, r.rel),
				Depends: some(r, 4, func() []api.Rel { return some(r, 3, r.rel) }),
			}
		}),
		Diverts: some(r, 4, func() api.Divert { return api.Divert{Path: r.path(), To: r.path(), By: r.name()} }),
		Lists:   some(r, 6, func() api.List { return list(r.name(), some(r, 4, r.path)...) }),
	}
}

func (r random) pack() api.Package {
	return api.Package{
		Name: r.name(), Version: r.version(), Conflicts: some(r, 3, r.rel), Replaces: some(r, 4, r.name),
		Files: some(r, 5, func() api.File { return api.File{Path: r.path(), Kind: r.IntN(4)} }),
	}
}

// isAt tells whether a path of a list is where a file of a package is to be.
func isAt(st api.State, l api.List, p string, x api.Package) bool {
	for _, f := range x.Files {
		if f.Kind != api.KDir && divs.True(st.Diverts, f.Path, x.Name) == divs.True(st.Diverts, p, l.Name) {
			return true
		}
	}
	return false
}

func modelOwned(st api.State, x api.Package) []string {
	var out []string
	for _, name := range []string{"", "a", "b", "c", "d"} {
		owns := false
		for _, l := range st.Lists {
			for _, p := range l.Paths {
				owns = owns || l.Name == name && isAt(st, l, p, x)
			}
		}
		if owns && name != x.Name && !slices.Contains(x.Replaces, name) {
			out = append(out, name)
		}
	}
	return out
}

func modelLost(st api.State, x api.Package) []api.List {
	var out []api.List
	for i, l := range st.Lists {
		lost := list(l.Name)
		for _, p := range l.Paths {
			if isAt(st, l, p, x) {
				lost.Paths = append(lost.Paths, p)
			}
		}
		if slices.Contains(x.Replaces, l.Name) && l.Name != x.Name && lists.Find(st.Lists, l.Name) == i && lost.Paths != nil {
			out = append(out, lost)
		}
	}
	return out
}

func modelConflicts(st api.State, x api.Package) []string {
	var out []string
	for _, r := range st.Records {
		bad := false
		for _, c := range x.Conflicts {
			bad = bad || relation.Fits(c, r.Name, r.Version)
		}
		for _, c := range r.Conflicts {
			bad = bad || relation.Fits(c, x.Name, x.Version)
		}
		if bad && r.Name != x.Name && r.State != api.SConfig {
			out = append(out, r.Name)
		}
	}
	return out
}

// isMet tells whether a group has a package that is there, of a name other than
// one, if there is such a one.
func isMet(st api.State, group []api.Rel, but *string) bool {
	for _, r := range st.Records {
		if but != nil && r.Name == *but || r.State != api.SPending && r.State != api.SInstalled {
			continue
		}
		for _, x := range group {
			if relation.Fits(x, r.Name, r.Version) {
				return true
			}
		}
	}
	return false
}

func modelNeeded(st api.State, name string) []string {
	var out []string
	for _, r := range st.Records {
		// More are lacking if one is that was not.
		more := slices.ContainsFunc(r.Depends, func(group []api.Rel) bool { return isMet(st, group, nil) && !isMet(st, group, &name) })
		if more && r.Name != name && r.State >= api.SAwaited && r.State <= api.SInstalled {
			out = append(out, r.Name)
		}
	}
	return out
}

func TestAllOfAny(t *testing.T) {
	r := random{rand.New(rand.NewPCG(20, 1))}
	seen := [5]int{}
	count := func(i, n int) {
		if n > 0 {
			seen[i]++
		}
	}
	for range 20000 {
		st, x := r.state(), r.pack()
		what := fmt.Sprintf("%v with %v", st, x)
		kept(t, func() {
			owned, lost, against, needed := check.Owned(st, x), check.Lost(st, x), check.Conflicts(st, x), check.Needed(st, x.Name)
			holds(t, "Owned: "+what, owned, modelOwned(st, x))
			holds(t, "Lost: "+what, lost, modelLost(st, x))
			holds(t, "Conflicts: "+what, against, modelConflicts(st, x))
			holds(t, "Needed: "+what, needed, modelNeeded(st, x.Name))
			taken, at, but := false, r.path(), r.name()
			for _, l := range st.Lists {
				for _, p := range l.Paths {
					taken = taken || l.Name != but && divs.True(st.Diverts, p, l.Name) == at
				}
			}
			if check.Taken(st, at, but) != taken {
				t.Errorf("Taken(%q, %q): %s", at, but, what)
			}
			count(0, len(owned))
			count(1, len(lost))
			count(2, len(against))
			count(3, len(needed))
			if taken {
				seen[4]++
			}
		}, st, x)
		if t.Failed() {
			return
		}
	}
	for i, n := range seen {
		if n < 400 {
			t.Errorf("the query %d answered something %d times", i, n)
		}
	}
}

// P20.5

func TestWhatIsLostIsLost(t *testing.T) {
	r := random{rand.New(rand.NewPCG(20, 5))}
	lost := 0
	for range 20000 {
		st, x := r.state(), r.pack()
		slices.SortFunc(st.Lists, func(a, b api.List) int { return strings.Compare(a.Name, b.Name) })
		st.Lists = slices.CompactFunc(st.Lists, func(a, b api.List) bool { return a.Name == b.Name })
		for _, l := range check.Lost(st, x) {
			st.Lists = lists.Lose(st.Lists, l.Name, l.Paths)
			lost++
		}
		for _, l := range st.Lists {
			for _, p := range l.Paths {
				if l.Name != x.Name && slices.Contains(x.Replaces, l.Name) && isAt(st, l, p, x) {
					t.Fatalf("%s of %s is left: %v with %v", p, l.Name, st, x)
				}
			}
		}
	}
	if lost < 1000 {
		t.Errorf("%d were lost", lost)
	}
}

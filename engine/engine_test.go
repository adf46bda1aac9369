package engine_test

import (
	"fmt"
	"slices"
	"testing"

	"cellarer/api"
	"cellarer/disk"
	"cellarer/engine"
)

// named is Configure, or one of those that take the same.
type named func(d *disk.Disk, st api.State, name string, pool []api.Package, codes []int) (api.State, []int, api.Errno)

// of is such a call, with its name and its pool.
func (do named) of(t *testing.T, name string, pool ...api.Package) call {
	return func(d *disk.Disk, st api.State, codes []int) answer {
		pool := spared(pool)
		before := whole(pool)
		got, left, e := do(d, st, name, pool, codes)
		if whole(pool) != before {
			t.Errorf("the pool was changed: %s, was %s", whole(pool), before)
		}
		return answer{got, left, e}
	}
}

// scripts is a package of which each script fires a trigger of its own.
func scripts(name, version string) api.Package {
	x := api.Package{Name: name, Version: version}
	for i := range x.Scripts {
		x.Scripts[i] = acts(fire(fmt.Sprintf("%s%d", version, i)))
	}
	return x
}

// pool is packages of which the third one is a, as it is in most tests.
func pool() []api.Package {
	return []api.Package{scripts("a", "9"), scripts("b", "1"), scripts("a", "1"), {Name: "a", Version: "1"}}
}

// awaiting is records of which some await a; then those are without it.
func awaiting() []api.Record {
	return []api.Record{
		{Name: "b", Version: "1", State: api.SAwaited, Awaited: []string{"a"}},
		{Name: "c", Version: "1", State: api.SAwaited, Awaited: []string{"a"}, Pending: []string{"t"}},
		{Name: "d", Version: "1", State: api.SAwaited, Awaited: []string{"a", "b"}, Pending: []string{"t"}},
		{Name: "e", Version: "1", State: api.SAwaited, Awaited: []string{"b"}},
		{Name: "f", Version: "1", State: api.SPending, Pending: []string{"a"}},
		{Name: "g", Version: "1", State: api.SHalfConf},
		{Name: "h", Version: "1", State: api.SConfig},
	}
}

func awaitingNoMore() []api.Record {
	return []api.Record{
		{Name: "b", Version: "1", State: api.SInstalled},
		{Name: "c", Version: "1", State: api.SPending, Pending: []string{"t"}},
		{Name: "d", Version: "1", State: api.SAwaited, Awaited: []string{"b"}, Pending: []string{"t"}},
		{Name: "e", Version: "1", State: api.SAwaited, Awaited: []string{"b"}},
		{Name: "f", Version: "1", State: api.SPending, Pending: []string{"a"}},
		{Name: "g", Version: "1", State: api.SHalfConf},
		{Name: "h", Version: "1", State: api.SConfig},
	}
}

// known is a's record in a state.
func known(state int) api.Record {
	x := api.Record{
		Name: "a", Version: "1", State: state,
		Depends: [][]api.Rel{rels("none", "f")}, Conflicts: rels("x"), Replaces: []string{"y"}, Confs: confs("1", "/etc/c", "/etc/gone"),
	}
	switch state {
	case api.SPending:
		x.Pending = []string{"t", "u"}
	case api.SAwaited:
		x.Pending, x.Awaited = []string{"t"}, []string{"e"}
	}
	return x
}

// sole is a world of one package, in a state.
func sole(state int) world { return world{st: api.State{Records: []api.Record{newRecord("a", state)}}} }

// settled is a world with a in a state, and others that await it.
func settled(state int) world {
	return world{st: api.State{
		Records:   append([]api.Record{known(state)}, awaiting()...),
		Interests: []api.Interest{in("/", "b"), in("/bin", "a"), in("/etc", "b"), in("/opt", "c"), in("t", "a"), in("t", "b")},
		Lists:     []api.List{listOf("a", "/bin", "/bin/a", "/bin/both", "/bin/l", "/etc", "/etc/c", "/etc/gone", "/opt", "/opt/a"), listOf("b", "/bin", "/bin/both")},
		Diverts:   []api.Divert{{Path: "/opt/a", To: "/opt.a", By: "b"}},
	}, on: []api.File{
		dir("/bin"), file("/bin/a", "a"), file("/bin/both", "both"), link("/bin/l", "a"), dir("/etc"), file("/etc/c", "mine"), dir("/opt"), file("/opt.a", "a"),
	}}
}

// P24.2

func TestConfigure(t *testing.T) {
	t.Parallel()
	configure := named(engine.Configure)
	var l []trial
	for _, state := range []int{api.SUnpacked, api.SHalfConf} {
		w := settled(state)
		l = append(l, trial{fmt.Sprint("in the state ", state), w, configure.of(t, "a", pool()...), []int{0, 1}, steps(
			records(append([]api.Record{known(api.SHalfConf)}, awaiting()...)...),
			script("a", fire("11")),
			records(append([]api.Record{known(api.SInstalled)}, awaitingNoMore()...)...),
		), api.OK})
		l = append(l, trial{fmt.Sprint("with a script that fails, in the state ", state), w, configure.of(t, "a", pool()...), []int{1, 0}, steps(
			records(append([]api.Record{known(api.SHalfConf)}, awaiting()...)...),
			script("a", fire("11")),
		), api.ESCRIPT})
	}
	// A package that is in no pool has no script, but a code.
	other := api.Package{Name: "a", Version: "1.0", Scripts: [4][]api.Act{1: acts(fails())}}
	for _, in := range [][]int{nil, {0}, {2, 1}} {
		e := api.OK
		p := steps(records(newRecord("a", api.SHalfConf)), script("a"), records(newRecord("a", api.SInstalled)))
		if len(in) == 2 {
			e, p = api.ESCRIPT, steps(records(newRecord("a", api.SHalfConf)), script("a"))
		}
		l = append(l, trial{"of no pool", sole(api.SUnpacked), configure.of(t, "a", other), in, p, e})
	}
	failing := api.Package{Name: "a", Version: "1", Scripts: [4][]api.Act{1: acts(fire("t"), fails(), fire("u"))}}
	l = append(l, trial{"with a command that fails", sole(api.SUnpacked), configure.of(t, "a", failing), []int{0}, steps(
		records(newRecord("a", api.SHalfConf)), script("a", fire("t"), fails()),
	), api.ESCRIPT})
	holdAll(t, l)
	trial{"with limits and power", settled(api.SUnpacked), configure.of(t, "a", pool()...), []int{0, 1}, l[0].plot, api.OK}.holdBoth(t)
}

// What is not there, is in another state, or lacks something is not configured;
// neither is anything done, nor a code taken.
func TestConfigureRefused(t *testing.T) {
	t.Parallel()
	configure := named(engine.Configure)
	refused := func(what string, w world, name string, e api.Errno) trial {
		return trial{what, w, configure.of(t, name, pool()...), []int{1, 2}, steps(fail(e)), e}
	}
	l := []trial{
		refused("nothing known", world{}, "a", api.ENOENT),
		refused("no name", settled(api.SUnpacked), "", api.ENOENT),
		refused("another name", settled(api.SUnpacked), "aa", api.ENOENT),
	}
	for _, state := range []int{api.SConfig, api.SHalfInst, api.SAwaited, api.SPending, api.SInstalled} {
		w := settled(state)
		w.st.Records[0].Depends = append(w.st.Records[0].Depends, rels("none"))
		l = append(l, refused(fmt.Sprint("in the state ", state), w, "a", api.ESTATE))
	}
	for state := api.SConfig; state <= api.SInstalled; state++ {
		for _, own := range []int{api.SUnpacked, api.SHalfConf} {
			w := settled(own)
			w.st.Records[0].Depends = [][]api.Rel{rels("f"), rels("z", "none")}
			z := newRecord("z", state)
			switch state {
			case api.SPending:
				z.Pending = []string{"t"}
			case api.SAwaited:
				z.Awaited = []string{"b"}
			}
			w.st.Records = append(w.st.Records, z)
			if state < api.SPending {
				l = append(l, refused(fmt.Sprint("with what it needs in the state ", state), w, "a", api.EDEPEND))
				continue
			}
			half, done := spared(w.st.Records), append([]api.Record{w.st.Records[0]}, awaitingNoMore()...)
			half[0].State, done[0].State = api.SHalfConf, api.SInstalled
			l = append(l, trial{fmt.Sprint("with what it needs in the state ", state), w, configure.of(t, "a"), nil, steps(
				records(half...), script("a"), records(append(done, z)...),
			), api.OK})
		}
	}
	w := settled(api.SUnpacked)
	w.st.Records[0].Depends = [][]api.Rel{{{Name: "f", Op: ">>", Version: "1"}}}
	l = append(l, refused("with what it needs in another version", w, "a", api.EDEPEND))
	holdAll(t, l)
}

// P24.3

// removed is what is to be done where a of settled is removed, ahead of its
// last script.
func removed() []step {
	half := known(api.SHalfInst)
	return []step{
		script("a", fire("12")),
		records(append([]api.Record{half}, awaitingNoMore()...)...),
		interests(in("/", "b"), in("/etc", "b"), in("/opt", "c"), in("t", "b")),
		unlink("/opt.a"), rmdir("/opt"), unlink("/bin/l"), unlink("/bin/a"), sync,
		fired(by("/"), by("/etc"), by("/opt"), by("12", "a")),
	}
}

func TestRemove(t *testing.T) {
	t.Parallel()
	remove := named(engine.Remove)
	var l []trial
	for state := api.SHalfInst; state <= api.SInstalled; state++ {
		l = append(l, trial{fmt.Sprint("in the state ", state), settled(state), remove.of(t, "a", pool()...), []int{0, 0, 1}, steps(append(removed(),
			script("a", fire("13")),
			list("a", "/etc/c", "/etc/gone"),
			records(append([]api.Record{known(api.SConfig)}, awaitingNoMore()...)...),
		)...), api.OK})
	}
	main := l[0]
	one := func(what string, change func(w *world), codes []int, e api.Errno, p ...step) {
		w := settled(api.SInstalled)
		if change != nil {
			change(&w)
		}
		l = append(l, trial{what, w, remove.of(t, "a", pool()...), codes, steps(p...), e})
	}
	one("without conffiles that are there", func(w *world) {
		w.on = slices.DeleteFunc(w.on, func(f api.File) bool { return f.Path == "/etc/c" })
	}, nil, api.OK, append(removed(),
		script("a", fire("13")), unlist("a"), records(awaitingNoMore()...))...)
	one("with a script that fails ahead", nil, []int{1, 0}, api.ESCRIPT, removed()[0])
	one("with a script that fails behind", nil, []int{0, 1, 0}, api.ESCRIPT, append(removed(), script("a", fire("13")))...)
	holdAll(t, l)
	main.holdBoth(t)
}

// Alone: without lists, interests, conffiles, or scripts.
func TestRemoveLittle(t *testing.T) {
	t.Parallel()
	remove := named(engine.Remove)
	half, conf := newRecord("a", api.SHalfInst), newRecord("a", api.SConfig)
	half.Confs, conf.Confs = confs("1", "/c"), confs("1", "/c")
	listed := func(more api.State, paths []string, on ...api.File) world {
		w := sole(api.SUnpacked)
		more.Records, more.Lists = w.st.Records, append([]api.List{listOf("a", paths...)}, more.Lists...)
		return world{more, on}
	}
	gone := func(l ...step) plot {
		return steps(slices.Concat([]step{script("a"), records(newRecord("a", api.SHalfInst))}, l, []step{script("a"), unlist("a"), records()})...)
	}
	conffiled := listed(api.State{Diverts: []api.Divert{{Path: "/c", To: "/c.x"}}}, []string{"/c", "/f"}, file("/c.x", "1"), file("/f", ""))
	conffiled.st.Records[0].Confs = confs("1", "/c")
	at := func(e api.Errno, p plot, what string, w world) trial {
		return trial{what, w, remove.of(t, "a"), []int{0}, p, e}
	}
	holdAll(t, []trial{
		at(api.OK, steps(script("a"), records(newRecord("a", api.SHalfInst)), script("a"), records()), "nothing", sole(api.SHalfInst)),
		at(api.OK, gone(), "an empty list", listed(api.State{}, nil)),
		at(api.OK, gone(), "nothing that is there", listed(api.State{Fired: []api.Fired{by("/f", "x")}, Interests: []api.Interest{in("/f", "x")}}, []string{"/d", "/f"})),
		at(api.OK, gone(unlink("/d/f"), rmdir("/d"), sync), "a directory", listed(api.State{}, []string{"/d", "/d/f"}, dir("/d"), file("/d/f", ""))),
		at(api.OK, gone(unlink("/d/f"), sync), "a directory with more", listed(api.State{}, []string{"/d", "/d/f"}, dir("/d"), file("/d/f", ""), file("/d/g", ""))),
		at(api.OK, gone(fired(by("/d"), by("/d/f"))), "what fires though it's not there", listed(api.State{Interests: []api.Interest{in("/d", "x"), in("/d/f", "x"), in("/e", "x")}}, []string{"/d", "/d/f"})),
		at(api.OK, gone(fired(by("/d"))), "a directory that fires", listed(api.State{Interests: []api.Interest{in("/d", "x")}}, []string{"/d"}, dir("/d"), file("/d/f", ""))),
		at(api.OK, gone(), "what another one has", listed(api.State{Lists: []api.List{listOf("b", "/f")}}, []string{"/f"}, file("/f", ""))),
		at(api.OK, gone(unlink("/g"), sync), "what another one has elsewhere", listed(api.State{Lists: []api.List{listOf("b", "/f")}, Diverts: []api.Divert{{Path: "/f", To: "/g", By: "b"}}}, []string{"/f"}, file("/f", ""), file("/g", ""))),
		at(api.OK, steps(script("a"), records(half), unlink("/f"), sync, script("a"), list("a", "/c"), records(conf)), "a conffile that is diverted", conffiled),
	})
	// Interests that are its own do not hear of it any more.
	w := listed(api.State{Interests: []api.Interest{in("/d/f", "a")}}, []string{"/d", "/d/f"})
	trial{"an interest of its own", w, remove.of(t, "a"), nil, steps(script("a"), records(newRecord("a", api.SHalfInst)), interests(), script("a"), unlist("a"), records()), api.OK}.hold(t)
}

func TestRemoveRefused(t *testing.T) {
	t.Parallel()
	remove := named(engine.Remove)
	refused := func(what string, w world, name string, e api.Errno) trial {
		return trial{what, w, remove.of(t, name, pool()...), []int{1, 2}, steps(fail(e)), e}
	}
	l := []trial{
		refused("nothing known", world{}, "a", api.ENOENT),
		refused("another name", settled(api.SInstalled), "aa", api.ENOENT),
	}
	// needed is a world in which z needs a, or what is in its place.
	needed := func(own, state int, more ...api.Rel) world {
		w := settled(own)
		z := newRecord("z", state)
		z.Depends = [][]api.Rel{append(rels("a"), more...)}
		if state == api.SPending {
			z.Pending = []string{"t"}
		}
		if state == api.SAwaited {
			z.Awaited = []string{"e"}
		}
		w.st.Records = append(w.st.Records, z)
		return w
	}
	l = append(l, refused("in the state 1, and needed", needed(api.SConfig, api.SInstalled), "a", api.ESTATE))
	for _, own := range []int{api.SHalfInst, api.SUnpacked, api.SHalfConf, api.SAwaited, api.SPending, api.SInstalled} {
		for state := api.SConfig; state <= api.SInstalled; state++ {
			what := fmt.Sprintf("in the state %d, needed by one in the state %d", own, state)
			w := needed(own, state)
			leans := state >= api.SAwaited
			// One that awaits is not there to be needed.
			if leans && (own == api.SPending || own == api.SInstalled) {
				l = append(l, refused(what, w, "a", api.EDEPEND))
				continue
			}
			z := w.st.Records[len(w.st.Records)-1]
			p := removed()
			p[1] = records(append(append([]api.Record{known(api.SHalfInst)}, awaitingNoMore()...), z)...)
			p = append(p, script("a", fire("13")), list("a", "/etc/c", "/etc/gone"), records(append(append([]api.Record{known(api.SConfig)}, awaitingNoMore()...), z)...))
			l = append(l, trial{what, w, remove.of(t, "a", pool()...), []int{0}, steps(p...), api.OK})
		}
	}
	for _, x := range l {
		x.once(t, "", func(*disk.Disk) {})
		if got, _ := x.once(t, "again", func(*disk.Disk) {}); got.e != x.e {
			t.Errorf("%s: %d, want %d", x.what, got.e, x.e)
		}
	}
	w := needed(api.SInstalled, api.SInstalled, rels("f")...)
	if got, _, e := engine.Remove(w.disk(t), w.st, "a", nil, nil); e != api.OK || got.Records[0].State != api.SConfig {
		t.Errorf("where another one is in its place: %v %d", got, e)
	}
}

// P24.4

// purged is a world in which only conffiles of a are left, and all that may
// become of them.
func purged() world {
	x := newRecord("a", api.SConfig)
	x.Confs = confs("1", "/d", "/d/c", "/d/e", "/f", "/gone", "/moved", "/theirs")
	return world{api.State{
		Records:   append([]api.Record{x}, awaiting()...),
		Interests: []api.Interest{in("/d", "b"), in("u", "a")},
		Diverts:   []api.Divert{{Path: "/moved", To: "/moved.x", By: "x"}},
		Lists:     []api.List{listOf("a", "/d", "/d/c", "/d/e", "/f", "/gone", "/moved", "/theirs"), listOf("b", "/theirs")},
	}, []api.File{dir("/d"), file("/d/c", "1"), dir("/d/e"), link("/f", "mine"), file("/moved", "x"), file("/moved.x", "mine"), file("/theirs", "b")}}
}

func TestPurge(t *testing.T) {
	t.Parallel()
	purge := named(engine.Purge)
	w := purged()
	rest := w.st.Records[1:]
	main := trial{"all", w, purge.of(t, "a", pool()...), []int{0, 1}, steps(
		script("a", fire("13")), unlink("/moved.x"), unlink("/f"), rmdir("/d/e"), unlink("/d/c"), rmdir("/d"), sync, unlist("a"), records(rest...),
	), api.OK}
	failing := main
	failing.what, failing.in, failing.plot, failing.e = "with a script that fails", []int{1, 0}, steps(script("a", fire("13"))), api.ESCRIPT
	conf := sole(api.SConfig)
	conf.st.Records[0].Confs = confs("1", "/c")
	unlisted := conf
	unlisted.on = []api.File{file("/c", "")}
	holdAll(t, []trial{
		main, failing,
		{"nothing", sole(api.SConfig), purge.of(t, "a"), nil, steps(script("a"), records()), api.OK},
		{"nothing that is there", conf, purge.of(t, "a"), nil, steps(script("a"), records()), api.OK},
		{"a conffile without a list", unlisted, purge.of(t, "a"), nil, steps(script("a"), unlink("/c"), sync, records()), api.OK},
		{"of no pool", sole(api.SConfig), purge.of(t, "a", scripts("a", "2"), scripts("b", "1")), []int{9}, steps(script("a")), api.ESCRIPT},
	})
	main.holdBoth(t)
	var l []trial
	for state := api.SHalfInst; state <= api.SInstalled; state++ {
		l = append(l, trial{fmt.Sprint("in the state ", state), settled(state), purge.of(t, "a", pool()...), []int{1}, steps(fail(api.ESTATE)), api.ESTATE})
	}
	l = append(l, trial{"nothing known", world{}, purge.of(t, "a", pool()...), []int{1}, steps(fail(api.ENOENT)), api.ENOENT},
		trial{"another name", purged(), purge.of(t, "aa", pool()...), []int{1}, steps(fail(api.ENOENT)), api.ENOENT})
	holdAll(t, l)
}

// The chapter's example: behind all four nothing is left.
func TestAllFour(t *testing.T) {
	t.Parallel()
	w := world{st: api.State{Records: []api.Record{newRecord("z", api.SInstalled)}}, on: []api.File{dir("/etc.d")}}
	x := api.Package{Name: "a", Version: "1", Files: []api.File{dir("/d"), file("/d/f", "2"), dir("/etc.d"), conffile("/etc.d/c", "1"), link("/etc.d/l", "x")}, Interests: []api.Interest{{Trigger: "t"}}}
	d := w.disk(t)
	was := entries(d)
	st, codes, e := engine.Unpack(d, w.st, x, []int{0, 0, 0, 0, 0, 7})
	states := []int{st.Records[0].State}
	for _, do := range []named{engine.Configure, engine.Remove, engine.Purge} {
		if e == api.OK {
			st, codes, e = do(d, st, "a", []api.Package{x}, codes)
			states = append(states, st.Records[0].State)
		}
	}
	if e != api.OK || !same(st, w.st) || !same(loads(t, d), st) || fmt.Sprint(entries(d)) != fmt.Sprint(was) || !slices.Equal(codes, []int{7}) {
		t.Errorf("%v %v %d: %v", st, codes, e, entries(d))
	}
	if !slices.Equal(states, []int{api.SUnpacked, api.SInstalled, api.SConfig, api.SInstalled}) {
		t.Error(states)
	}
}

// Without a disk, or power, nothing is done; the state that was given is
// answered, and the codes that are left.
func TestWithout(t *testing.T) {
	t.Parallel()
	half := purged()
	for _, c := range []struct {
		what string
		w    world
		do   call
		left []int
	}{
		{"Unpack", upgraded(), unpack(t, api.Package{Name: "n", Version: "1"}), []int{0, 3}},
		{"Unpack of files", upgraded(), unpack(t, second()), []int{0, 3}},
		{"Configure", settled(api.SUnpacked), named(engine.Configure).of(t, "a"), []int{0, 3}},
		{"Remove", settled(api.SUnpacked), named(engine.Remove).of(t, "a"), []int{3}},
		{"Purge", half, named(engine.Purge).of(t, "a"), []int{3}},
	} {
		for d, want := range without(t, c.w) {
			was := look(d)
			got := c.do(d, c.w.st, []int{0, 3})
			if !same(got, answer{c.w.st, c.left, want}) || look(d) != was {
				t.Errorf("%s: %s, want %d", c.what, show(got), want)
			}
		}
	}
	// What is refused is refused without a disk too, and a script may fail.
	for d := range without(t, upgraded()) {
		for e, do := range map[api.Errno]call{
			api.EARG:    unpack(t, api.Package{}),
			api.ENOENT:  named(engine.Remove).of(t, "none"),
			api.ESTATE:  named(engine.Configure).of(t, "d"),
			api.ESCRIPT: named(engine.Purge).of(t, "d"),
		} {
			if got := do(d, upgraded().st, []int{1}); got.e != e || !same(got.st, upgraded().st) {
				t.Errorf("%s, want %d", show(got), e)
			}
		}
	}
}

// With an error, the state is what the disk has, even if another one was given;
// if that can't be read, it's the one that was reached.
func TestStateOfErrors(t *testing.T) {
	t.Parallel()
	given := settled(api.SInstalled).st
	for _, c := range []struct {
		do call
		e  api.Errno
	}{
		{unpack(t, api.Package{}), api.EARG},
		{named(engine.Configure).of(t, "a"), api.ESTATE},
		{named(engine.Remove).of(t, "none"), api.ENOENT},
		{named(engine.Purge).of(t, "a"), api.ESTATE},
	} {
		on := purged()
		if got := c.do(on.disk(t), given, []int{5}); !same(got, answer{on.st, []int{5}, c.e}) {
			t.Errorf("%s, want %d", show(got), c.e)
		}
		if got := c.do(disk.New(api.Limits{}), given, []int{5}); !same(got, answer{given, []int{5}, c.e}) {
			t.Errorf("%s, want %d", show(got), c.e)
		}
		d := on.disk(t)
		must(t, d.Do(api.Op{Kind: api.OWrite, Path: home + "/statoverride", Text: "x"}))
		if got := c.do(d, given, nil); !same(got, answer{given, nil, c.e}) {
			t.Errorf("%s, want %d", show(got), c.e)
		}
	}
	// What was reached ahead of the error is with it.
	w := sole(api.SUnpacked)
	d := w.disk(t)
	must(t, d.Do(api.Op{Kind: api.OWrite, Path: home + "/statoverride", Text: "x"}))
	x := api.Package{Name: "a", Version: "1", Scripts: [4][]api.Act{1: acts(fire("t"), fails())}}
	want := api.State{Records: []api.Record{newRecord("a", api.SHalfConf)}, Fired: []api.Fired{by("t", "a")}}
	if got := named(engine.Configure).of(t, "a", x)(d, w.st, nil); !same(got, answer{want, nil, api.ESCRIPT}) {
		t.Error(show(got))
	}
}

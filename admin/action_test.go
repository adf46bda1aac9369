package admin_test

import (
	"fmt"
	"slices"
	"strings"
	"testing"

	"cellarer/admin"
	"cellarer/api"
	"cellarer/repair"
)

// P28.3

// step is a line, and what it answers.
type step struct {
	line string
	e    api.Errno
	text string
}

// play holds a world to a script, and hands the world on.
func play(t *testing.T, what string, l []step) *admin.World {
	t.Helper()
	p := newPair()
	for i, s := range l {
		got := p.do(t, what, line(t, s.line))
		if got != (api.Answer{Code: s.e, Text: s.text}) {
			t.Errorf("%s: line %d, %s: %d %q, want %d %q", what, i, s.line, got.Code, got.Text, s.e, s.text)
		}
		loads(t, p.w)
	}
	return p.w
}

func ok(line string) step { return step{line: line} }

func fails(line string, e api.Errno) step { return step{line: line, e: e} }

func tells(line string, l ...string) step {
	return step{line: line, text: strings.Join(l, "\n") + "\n"}
}

// The examples of the whole.
func TestExamples(t *testing.T) {
	t.Parallel()
	play(t, "a diversion", []step{ok("divert /a - - keep"), tells("true /a -", "/a.distrib")})
	play(t, "an override, twice", []step{ok("override /a 0400 0 0 once later"), fails("override /a 0400 0 0 once later", api.EEXIST), ok("override /a 0400 0 0 force later")})
	play(t, "a package", []step{
		ok("package a 1"), ok("file /a 0644 0 0 61"), ok("conffile /c 0644 0 0 63"), fails("unpack a 2", api.ENOENT), ok("unpack a 1"),
		tells("show a", "Package: a", "Status: unpacked", "Version: 1", "Conffiles:", " /c af63de4c8601eff2"), ok("configure a"),
		tells("show a", "Package: a", "Status: installed", "Version: 1", "Conffiles:", " /c af63de4c8601eff2"), tells("owner /a", "a"), ok("remove a"),
		tells("show a", "Package: a", "Status: config-files", "Version: 1", "Conffiles:", " /c af63de4c8601eff2"), fails("owner /a", api.ENOENT), tells("owner /c", "a"), ok("purge a"),
		fails("show a", api.ENOENT), fails("owner /c", api.ENOENT), fails("purge a", api.ENOENT),
	})
	play(t, "an alternative", []step{
		ok("package p 1"), ok("file /a 0755 0 0 -"), ok("file /b 0755 0 0 -"), ok("unpack p 1"),
		ok("install vi /vi /a 5"), ok("install vi /vi /b 9"), tells("query vi", "auto", "/vi", "", "/a", "5", "/b", "9", "", "/b"),
		ok("set vi /a"), tells("query vi", "manual /a", "/vi", "", "/a", "5", "/b", "9", "", "/a"),
		ok("withdraw vi /a"), tells("query vi", "auto", "/vi", "", "/b", "9", "", "/b"), ok("remove-all vi"), fails("query vi", api.ENOENT),
	})
	w := play(t, "a conffile that somebody changed", []step{
		ok("package a 1"), ok("conffile /c 0644 0 0 61"), ok("package a 2"), ok("conffile /c 0644 0 0 62"), ok("unpack a 1"), ok("configure a"),
	})
	write(t, w.Disk(), "/c", "mine")
	all(t, w, "unpack a 2\n")
	mine, _ := w.Disk().Read("/c")
	its, _ := w.Disk().Read("/c.dpkg-dist")
	if mine != "mine" || its != "b" {
		t.Errorf("%q %q", mine, its)
	}
	play(t, "a package that fires what it is interested in", []step{
		ok("package a 1"), ok("interest t await"), ok("postinst fire t await"), ok("unpack a 1"), ok("configure a"),
		tells("process", "run a", "cycle a"), tells("show a", "Package: a", "Status: half-configured", "Version: 1"), ok("process"),
	})
	play(t, "one that awaits another one", []step{
		ok("package a 1"), ok("interest t await"), ok("package b 1"), ok("postinst fire t await"), ok("unpack a 1"), ok("configure a"), ok("unpack b 1"), ok("configure b"),
		ok("codes 1"), tells("process", "run a", "failed a"), tells("show b", "Package: b", "Status: triggers-awaited", "Version: 1", "Triggers-Awaited: a"),
		tells("show a", "Package: a", "Status: half-configured", "Version: 1"), ok("configure a"), tells("show b", "Package: b", "Status: installed", "Version: 1"),
	})
	play(t, "a disk that is full", []step{ok("override /a 0400 0 0 once later"), ok("limits 16 0 0"), fails("override /b 0400 0 0 once later", api.ENOSPC), fails("override /a 0400 0 0 once later", api.EEXIST)})
}

// Of several packages of one name and version the first one is unpacked.
func TestFirst(t *testing.T) {
	t.Parallel()
	play(t, "packages of one name", []step{
		ok("package a 1"), ok("file /x 0644 0 0 -"), ok("package a 2"), ok("file /y 0644 0 0 -"), ok("package a 1"), ok("file /z 0644 0 0 -"), ok("package b 1"),
		ok("unpack a 1"), tells("owner /x", "a"), fails("owner /z", api.ENOENT), ok("unpack a 2"), tells("owner /y", "a"), fails("owner /x", api.ENOENT),
		fails("unpack a 3", api.ENOENT), fails("unpack a 01", api.ENOENT), fails("unpack c 1", api.ENOENT), fails("unpack b 2", api.ENOENT), fails("unpack A 1", api.ENOENT),
	})
	// Its scripts are those of the first one of its name and version, too.
	play(t, "scripts", []step{
		ok("package a 1"), ok("package a 1"), ok("postinst unoverride /none"), ok("prerm unoverride /none"), ok("unpack a 1"), ok("configure a"), ok("remove a"),
		ok("package a 2"), ok("postinst unoverride /none"), ok("unpack a 2"), fails("configure a", api.ESCRIPT), fails("configure a", api.ESCRIPT),
	})
	// What a package is has to be right only when it is unpacked.
	play(t, "packages that may not be", []step{
		ok("package A 1"), fails("unpack A 1", api.EARG), ok("package a x"), fails("unpack a x", api.EARG), ok("package b 1"), ok("file b 0644 0 0 -"), fails("unpack b 1", api.EARG),
		ok("package c 1"), ok("interest t await"), ok("interest t await"), fails("unpack c 1", api.EARG), fails("configure A", api.ENOENT), fails("remove -", api.ENOENT),
	})
}

// What a trigger of an administrator fires, nobody waits for.
func TestFiredByNobody(t *testing.T) {
	t.Parallel()
	w := world(t, "fire t await\nfire u noawait\n")
	if st := loads(t, w); !same(st.Fired, []api.Fired{{Trigger: "t"}, {Trigger: "u"}}) {
		t.Errorf("%v", st.Fired)
	}
}

// where is a world ahead of an action, beside what is settled.
type where struct {
	what, text, action string
	e                  api.Errno
}

// trials are actions of each kind, that go well and that don't.
func trials() []where {
	out := []where{
		{"configured, with a trigger", "unpack a 2\n", "configure a", api.OK},
		{"a script that fails", "unpack a 2\ncodes 5\n", "configure a", api.ESCRIPT},
		{"purged", "remove a\n", "purge a", api.OK},
		{"purged, with a script that fails", "remove a\ncodes 5\n", "purge a", api.ESCRIPT},
		{"a removal that is half done", "codes 0 5\n", "remove a", api.ESCRIPT},
		{"triggers", "unpack a 2\nconfigure a\nfire t await\n", "process", api.OK},
		{"triggers that fail", "fire /usr await\ncodes 9\n", "process", api.OK},
		{"no such package", "", "unpack c 2", api.ENOENT},
		{"no such choice", "", "set vi /c", api.ENOENT},
		{"a choice that is not there", "", "install vi /usr/vi /none 5", api.ENOENT},
		{"an override that is there", "", "override /usr/a 0400 0 0 once later", api.EEXIST},
		{"a diversion that is there", "", "divert /usr/b - - keep", api.EDIVERT},
		{"what is owned", "package d 1\nfile /usr/a 0644 0 0 -\n", "unpack d 1", api.EOWNED},
		{"a conflict", "package d 1\nconflicts a\n", "unpack d 1", api.ECONFLICT},
		{"what is lacking", "package d 1\ndepends e\nunpack d 1\n", "configure d", api.EDEPEND},
		{"no place", "", "divert /" + strings.Repeat("a", 199) + " - - keep", api.EARG},
	}
	for _, s := range actions {
		e := api.OK
		switch s {
		case "configure a", "purge a":
			e = api.ESTATE
		case "remove b":
			e = api.EDEPEND
		}
		out = append(out, where{"", "", s, e})
	}
	return out
}

func TestActions(t *testing.T) {
	t.Parallel()
	for _, c := range trials() {
		what := c.what + " " + c.action
		p := ready(settled + c.text)
		if got := p.do(t, what, line(t, c.action)); got.Code != c.e {
			t.Errorf("%s: %d, want %d", what, got.Code, c.e)
		}
		if _, e := p.w.Disk().Stat(lockAt); e != api.ENOENT {
			t.Errorf("%s: the lock is still there", what)
		}
		// What codes are left is seen when scripts take them.
		p.all(t, what, "remove a\nremove a\nremove b\npurge a\npurge a\nprocess\n")
	}
}

// The lock of another one stays, and keeps from all but reading.
func TestLocked(t *testing.T) {
	t.Parallel()
	for _, c := range trials() {
		w := world(t, settled+c.text)
		write(t, w.Disk(), lockAt, "")
		before := sight(w)
		does(t, w, c.action, api.EBUSY, "")
		if sight(w) != before {
			t.Errorf("%s: the world changed", c.action)
		}
		must(t, w.Disk().Do(api.Op{Kind: api.OUnlink, Path: lockAt}))
		if got := w.Do(line(t, c.action)); got.Code != c.e {
			t.Errorf("%s: %d, want %d", c.action, got.Code, c.e)
		}
	}
}

// Without room a command of an administrator leaves all databases as they were.
func TestWithoutRoom(t *testing.T) {
	t.Parallel()
	struck := map[api.Errno]int{}
	for _, c := range trials() {
		size, files := 0, 0
		for _, x := range world(t, settled+c.text).Disk().Image() {
			size, files = size+len(x.Text), files+1
		}
		var bounds []string
		for n := range 6 {
			bounds = append(bounds, fmt.Sprintf("limits %d 0 0\n", size+n*n*8), fmt.Sprintf("limits 0 %d 0\n", files+n), fmt.Sprintf("limits 0 0 %d\n", 2+n))
		}
		for _, bound := range append(bounds, "limits 1 0 0\n", "limits 0 1 0\n", "limits 0 0 1\n") {
			p := ready(settled + c.text + bound)
			was := loads(t, p.w)
			x := line(t, c.action)
			got := p.do(t, bound+c.action, x)
			now := loads(t, p.w)
			if got.Code != c.e {
				struck[got.Code]++
				if x.Kind == api.LAct && !same(now, was) {
					t.Errorf("%s%s: %d, and databases changed", bound, c.action, got.Code)
				}
			}
			if got.Code != api.OK && got.Text != "" {
				t.Errorf("%s%s: %d %q", bound, c.action, got.Code, got.Text)
			}
			// With room it goes on.
			p.all(t, bound+c.action, "limits 0 0 0\nfire u await\n"+c.action+"\nprocess\n")
		}
	}
	for _, e := range []api.Errno{api.ENOSPC, api.ENFILE, api.ELONG} {
		if struck[e] < 10 {
			t.Errorf("limits struck: %v", struck)
		}
	}
}

// inOrder holds a world to having nothing left of what was broken off.
func inOrder(t *testing.T, what string, w *admin.World) {
	t.Helper()
	if !w.Disk().On() {
		t.Fatalf("%s: no power", what)
	}
	if l := repair.Odd(w.Disk()); len(l) > 0 {
		t.Errorf("%s: %q is left", what, l)
	}
	was, steps := loads(t, w), w.Disk().Steps()
	st, e := repair.Repair(w.Disk())
	if e != api.OK || !same(st, was) || w.Disk().Steps() != steps {
		t.Errorf("%s: a second recovery: %d", what, e)
	}
}

// pendingAt is how many operations are pending when power goes off in an action.
func pendingAt(text string, x api.Line, steps int) int {
	m := readyModel(text)
	m.d.Fuse(steps)
	m.command(m.load(), x)
	return m.d.Pending()
}

// Power goes off behind each step, and much or little of what is pending remains.
func TestCrashes(t *testing.T) {
	t.Parallel()
	for _, c := range trials() {
		t.Run(c.what+" "+c.action, func(t *testing.T) {
			t.Parallel()
			c.crashes(t)
		})
	}
}

func (c where) crashes(t *testing.T) {
	t.Helper()
	x := line(t, c.action)
	was := loads(t, ready(settled+c.text).w)
	end := ready(settled + c.text)
	end.w.Do(x)
	after := loads(t, end.w)
	last := end.w.Disk().Steps() - ready(settled+c.text).w.Disk().Steps()
	for n := range last + 1 {
		pending := pendingAt(settled+c.text, x, n)
		for _, keep := range slices.Compact([]int{0, pending / 2, pending, pending + 2}) {
			what := fmt.Sprintf("crash %d %d %d", n, keep, n%3)
			p := ready(settled + c.text + what + "\n")
			got := p.do(t, what, x)
			inOrder(t, what, p.w)
			now := loads(t, p.w)
			switch {
			case n == last:
				if got.Code != c.e {
					t.Errorf("%s: %d, want %d", what, got.Code, c.e)
				}
			case n < last-1 || c.e == api.OK:
				if got != code(api.EOFF) {
					t.Errorf("%s: %v", what, got)
				}
			case got != code(c.e):
				t.Errorf("%s: %v", what, got)
			}
			// In the unlocking all was done already.
			if n >= last-1 && !same(now, after) {
				t.Errorf("%s: %v, want %v", what, now, after)
			}
			if x.Kind == api.LAct && !same(now, was) && !same(now, after) {
				t.Errorf("%s: %v, want %v or %v", what, now, was, after)
			}
			if x.Kind != api.LProcess {
				halves(t, what, x.Name, was, now, after)
			}
			// The crash came once, and what was broken off can be done again.
			p.all(t, what, c.action+"\nfire u await\nprocess\n")
		}
	}
}

// halves holds the records behind a crash to what may be: that of the package
// itself is as before, as afterwards, or half-done, and of others at most what
// they await changes.
func halves(t *testing.T, what, name string, was, now, after api.State) {
	t.Helper()
	find := func(l []api.Record, name string) api.Record {
		i := slices.IndexFunc(l, func(x api.Record) bool { return x.Name == name })
		if i < 0 {
			return api.Record{}
		}
		return l[i]
	}
	for _, l := range [][]api.Record{was.Records, now.Records, after.Records} {
		for _, x := range l {
			is, before := find(now.Records, x.Name), find(was.Records, x.Name)
			if x.Name != name {
				is.State, is.Awaited, before.State, before.Awaited = 0, nil, 0, nil
				if !same(is, before) {
					t.Errorf("%s: %v, was %v", what, is, before)
				}
				continue
			}
			if same(is, before) || same(is, find(after.Records, name)) {
				continue
			}
			if is.State != api.SHalfInst && is.State != api.SUnpacked && is.State != api.SHalfConf {
				t.Errorf("%s: %v, was %v", what, is, before)
			}
		}
	}
}

// Power goes off again within the recovery, several times, and what remains of
// that differs too.
func TestCrashesAgain(t *testing.T) {
	t.Parallel()
	again := 0
	for _, c := range []where{
		{"", "", "unpack a 2", api.OK},
		{"", "", "remove a", api.OK},
		{"", "", "install ed /usr/ed /usr/a 3 ed.1 /usr/ed.1 /c", api.OK},
		{"", "", "withdraw vi /usr/a", api.OK},
	} {
		last := 0
		{
			w := world(t, settled)
			last = -w.Disk().Steps()
			w.Do(line(t, c.action))
			last += w.Disk().Steps()
		}
		for n := range last {
			for m := range 6 {
				what := fmt.Sprintf("crash %d %d 1 1\ncrash %d %d\ncrash %d 1 2\ncrash 0 0\n", n, n%5, m, n%3, m/2)
				p := ready(settled + what)
				p.do(t, what, line(t, c.action))
				if !p.w.Disk().On() {
					t.Fatalf("%s: no power", what)
				}
				again += 3 - len(p.m.next)
				loads(t, p.w)
				// Those that are left strike later.
				for len(p.m.next) > 0 {
					p.all(t, what, "fire u await\nunpack b 1\n")
				}
				inOrder(t, what, p.w)
				p.all(t, what, c.action+"\n")
			}
		}
	}
	if again < 300 {
		t.Errorf("only %d crashes within a recovery", again)
	}
}

// Power goes off where a limit had struck: also while a package is taken back,
// whose error is what is answered then.
func TestCrashesWithoutRoom(t *testing.T) {
	t.Parallel()
	seen := map[api.Errno]int{}
	for _, action := range []string{"unpack a 2", "install ed /usr/ed /usr/a 3 ed.1 /usr/ed.1 /c", "override /usr/b 0400 0 0 force update", "remove a"} {
		size, files := 0, 0
		for _, x := range world(t, settled).Disk().Image() {
			size, files = size+len(x.Text), files+1
		}
		for _, bound := range []string{fmt.Sprintf("limits %d 0 0\n", size+300), fmt.Sprintf("limits %d 0 0\n", size+5), fmt.Sprintf("limits 0 %d 0\n", files+1), fmt.Sprintf("limits 0 %d 0\n", files+3), "limits 0 0 8\n"} {
			for n := 0; ; n++ {
				what := fmt.Sprintf("%scrash %d 1\n", bound, n)
				p := ready(settled + what)
				got := p.do(t, what+action, line(t, action))
				loads(t, p.w)
				if !p.w.Disk().On() {
					t.Fatalf("%s%s: no power", what, action)
				}
				if len(p.m.next) > 0 {
					break
				}
				seen[got.Code]++
				p.all(t, what, "limits 0 0 0\n"+action+"\n")
			}
		}
	}
	if seen[api.EOFF] < 50 || seen[api.ENOSPC] < 3 || seen[api.ENFILE] < 3 {
		t.Errorf("power went off behind %v", seen)
	}
}

// Power that goes off without a crash of the script leaves only what was kept.
func TestPower(t *testing.T) {
	t.Parallel()
	for _, action := range actions {
		for n := range 12 {
			p := ready(settled)
			p.w.Disk().Fuse(n)
			p.m.d.Fuse(n)
			p.do(t, action, line(t, action))
			inOrder(t, action, p.w)
		}
	}
	// An action in whose beginning it is off already.
	for _, crash := range []string{"", "crash 0 5\n", "crash 2 1\ncrash 0 0\n"} {
		p := ready(settled + crash)
		for _, d := range []interface {
			Fuse(int)
			Do(api.Op) api.Errno
		}{p.w.Disk(), p.m.d} {
			must(t, d.Do(api.Op{Kind: api.OMkdir, Path: "/new"}))
			d.Fuse(0)
			d.Do(api.Op{Kind: api.OMkdir, Path: "/newer"})
		}
		if got := p.do(t, crash, line(t, "fire u await")); got != code(api.EOFF) {
			t.Errorf("%v", got)
		}
		p.all(t, crash, "fire u await\nfire v await\nfire w await\nshow a\n")
	}
}

package tools_test

import (
	"fmt"
	"slices"
	"strings"
	"testing"

	"cellarer/admin"
	"cellarer/api"
	"cellarer/disk"
	"cellarer/store"
	"cellarer/tools"
)

// P33.1

// spoils are what keeps databases from being read.
func spoils(t *testing.T) map[string]func(d *disk.Disk) {
	out := map[string]func(d *disk.Disk){
		"a strange list":        func(d *disk.Disk) { write(t, d, home+"info/x.list", "x") },
		"what is no list":       func(d *disk.Disk) { write(t, d, home+"info/x", "") },
		"a strange alternative": func(d *disk.Disk) { write(t, d, home+"alternatives/vi", "auto\n") },
		"one byte":              func(d *disk.Disk) { text, _ := d.Read(home + "status"); write(t, d, home+"status", text+"\n") },
	}
	for _, name := range []string{"status", "diversions", "statoverride", "triggers/File", "triggers/Unincorp"} {
		out["spoilt "+name] = func(d *disk.Disk) { write(t, d, home+name, "x") }
		out["no "+name] = func(d *disk.Disk) { unlink(t, d, home+name) }
	}
	return out
}

// answers holds each call to an error, with nothing beside it.
func answers(t *testing.T, what string, w *admin.World, want api.Errno) {
	t.Helper()
	for _, c := range every() {
		if got, e := c.do(w); got != "" || e != want {
			t.Errorf("%s: %s: %d %q, want %d", what, c.what, e, got, want)
		}
	}
}

// Databases that can't be read are told ahead of all that is wrong with arguments.
func TestCorrupt(t *testing.T) {
	t.Parallel()
	for what, spoil := range spoils(t) {
		for _, text := range []string{"", settled} {
			w := world(t, text+"codes 1\n")
			spoil(w.Disk())
			before := sight(w)
			answers(t, what, w, api.ECORRUPT)
			if sight(w) != before {
				t.Errorf("%s: the world changed", what)
			}
			// Nor does a lock count, or room, or a crash that is to come.
			write(t, w.Disk(), lockAt, "")
			all(t, w, "limits 1 1 1\ncrash 0 0\n")
			before = sight(w)
			answers(t, what, w, api.ECORRUPT)
			if sight(w) != before {
				t.Errorf("%s: the world changed, with its lock", what)
			}
		}
	}
}

func TestNoWorld(t *testing.T) {
	t.Parallel()
	var zero admin.World
	for what, w := range map[string]*admin.World{"nil": nil, "new": new(admin.World), "zero": &zero} {
		answers(t, what, w, api.ENIL)
	}
}

// Without power the world is left to who changes something.
func TestOff(t *testing.T) {
	t.Parallel()
	w := world(t, settled)
	w.Disk().Fuse(0)
	if e := w.Disk().Sync("/"); e != api.EOFF {
		t.Fatal(e)
	}
	before := sight(w)
	answers(t, "off", w, api.EOFF)
	if sight(w) != before {
		t.Error("the world changed")
	}
}

// What only asks changes nothing, needs neither the lock nor room, and lets no
// crash come nearer.
func TestQueriesAlone(t *testing.T) {
	t.Parallel()
	for _, text := range []string{"", settled} {
		free, w := world(t, text), world(t, text)
		write(t, w.Disk(), lockAt, "")
		// Something is pending, and something dirty, that stays so.
		must(t, w.Disk().Do(api.Op{Kind: api.OMkdir, Path: "/new"}))
		must(t, w.Disk().Do(api.Op{Kind: api.OWrite, Path: lockAt, Text: "dirty"}))
		all(t, w, "limits 1 1 1\ncodes 1 1\ncrash 0 7 7\n")
		before := sight(w)
		for _, c := range slices.Concat(queries, idle) {
			for range 2 {
				want, wantE := c.do(free)
				got, e := c.do(w)
				if got != want || e != wantE || text != "" && e != c.e {
					t.Errorf("%s: %d %q, want %d %q", c.what, e, got, wantE, want)
				}
			}
		}
		if sight(w) != before {
			t.Error("the world changed")
		}
		must(t, w.Disk().Sync("/"))
		unlink(t, w.Disk(), lockAt)
		all(t, w, "limits 0 0 0\n")
		if got := w.Do(line(t, "fire u await")); got.Code != api.EOFF {
			t.Errorf("the crash did not come: %d", got.Code)
		}
		all(t, w, "fire u await\n")
	}
}

func TestList(t *testing.T) {
	t.Parallel()
	const (
		localLine = "local diversion of /usr/b to /usr/b.distrib\n"
		ofP       = "diversion of /opt/z to /opt/z.p by p\n"
		overA     = "#1 #2 0400 /a\n"
		overOptA  = "#0 #5 4755 /opt/a\n"
	)
	w := world(t, settled)
	for p, want := range map[string]string{
		"*":                      ofP + localLine + overA + overOptA,
		"**":                     ofP + localLine + overA + overOptA,
		"/*":                     ofP + localLine + overA + overOptA,
		"/opt/*":                 ofP + overOptA,
		"*a*":                    localLine + overA + overOptA,
		"*/a":                    overA + overOptA,
		"/?":                     overA,
		"/a":                     overA,
		"/opt/a":                 overOptA,
		"/usr/b":                 localLine,
		"/usr/b.distrib":         localLine,
		"local":                  localLine,
		"[l-p]*":                 ofP + localLine,
		"?":                      ofP,
		"p":                      ofP,
		"[!x]opt/z.p":            ofP,
		`\/a`:                    overA,
		"":                       "",
		"/none":                  "",
		"a":                      "",
		`\*`:                     "",
		"#*":                     "",
		"/opt/a ":                "",
		"diversion*":             "",
		strings.Repeat("*", 200): ofP + localLine + overA + overOptA,
		strings.Repeat("a", 200): "",
		"/usr/[b]":               localLine,
		"/usr/b.distrib*":        localLine,
	} {
		if got, e := tools.List(w, p); got != want || e != api.OK {
			t.Errorf("%q: %d %q, want %q", p, e, got, want)
		}
	}
	for _, p := range []string{"[", "/a[", "[]", "[!]", `\`, `/a\`, `*\`, `[a\]`, "*[a", strings.Repeat("*", 201), "/" + strings.Repeat("a", 200)} {
		if got, e := tools.List(w, p); got != "" || e != api.EFORM {
			t.Errorf("%q: %d %q", p, e, got)
		}
	}
	// Of what there is none, nothing is told.
	for text, want := range map[string]string{"": "", "divert /usr/b - - keep\n": localLine, "override /a 0400 1 2 once later\n": overA} {
		w := world(t, text)
		if got, e := tools.List(w, "*"); got != want || e != api.OK {
			t.Errorf("behind %q: %d %q, want %q", text, e, got, want)
		}
		if got, e := tools.List(w, "["); got != "" || e != api.EFORM {
			t.Errorf("behind %q: %d %q", text, e, got)
		}
	}
	// Diversions stand ahead of overrides, wherever their paths are.
	w = world(t, "override /a 0400 0 0 once later\ndivert /b - - keep\noverride /c 0400 0 0 once later\ndivert /d - - keep\n")
	if got, _ := tools.List(w, "/[a-d]"); got != "local diversion of /b to /b.distrib\nlocal diversion of /d to /d.distrib\n#0 #0 0400 /a\n#0 #0 0400 /c\n" {
		t.Errorf("%q", got)
	}
}

func TestDisplay(t *testing.T) {
	t.Parallel()
	const rest = "link vi is /vi\nslave vi.1 is /vi.1\nslave vi.2 is /vi.2\n/opt/a - priority 5\nslave vi.1: /opt/a\n/opt/b - priority 9\nslave vi.2: /opt/b\n/opt/c - priority 7\n"
	w := world(t, settled)
	display := func(name, want string, wantE api.Errno) {
		t.Helper()
		if got, e := tools.Display(w, name); got != want || e != wantE {
			t.Errorf("%q: %d %q, want %d %q", name, e, got, wantE, want)
		}
	}
	display("vi", "vi - auto mode\nbest /opt/b\ncurrently /opt/b\n"+rest, api.OK)
	display("ed", "ed - auto mode\nbest /opt/a\ncurrently /opt/a\nlink ed is /ed\n/opt/a - priority -1\n/opt/b - priority -1\n", api.OK)
	display("ex", "ex - manual mode\nbest /opt/c\ncurrently /opt/c\nlink ex is /ex\n/opt/c - priority 1\n", api.OK)
	for _, name := range []string{"", "none", "vi.1", "v", "vi ", "VI", "*", "e?", "/vi", "a", "p", strings.Repeat("v", 1000)} {
		display(name, "", api.ENOENT)
	}
	all(t, w, "set vi /opt/a\n")
	display("vi", "vi - manual mode\nbest /opt/b\ncurrently /opt/a\n"+rest, api.OK)
	all(t, w, "remove-all vi\n")
	display("vi", "", api.ENOENT)
	display("ed", "ed - auto mode\nbest /opt/a\ncurrently /opt/a\nlink ed is /ed\n/opt/a - priority -1\n/opt/b - priority -1\n", api.OK)
	w = admin.New()
	display("vi", "", api.ENOENT)
}

func selected(t *testing.T, w *admin.World, want string) {
	t.Helper()
	if got, e := tools.Selections(w); got != want || e != api.OK {
		t.Errorf("Selections: %d %q, want %q", e, got, want)
	}
}

func TestSelections(t *testing.T) {
	t.Parallel()
	w := world(t, settled)
	selected(t, w, selections)
	all(t, w, "set vi /opt/a\nauto ex\n")
	selected(t, w, "ed auto /opt/a\nex auto /opt/c\nvi manual /opt/a\n")
	all(t, w, "remove-all ed\nset vi /opt/b\n")
	selected(t, w, "ex auto /opt/c\nvi manual /opt/b\n")
	all(t, w, "remove-all ex\nremove-all vi\n")
	selected(t, w, "")
	selected(t, admin.New(), "")
	// As many as there may be.
	w, want := many(t, 64)
	selected(t, w, want)
}

// many is a world with some alternatives, and what is selected there.
func many(t *testing.T, n int) (*admin.World, string) {
	t.Helper()
	w, want := admin.New(), ""
	for i := range n {
		name := fmt.Sprintf("x%02d", i)
		x := api.Alt{Name: name, Link: "/" + name, Cur: "/a", Manual: i%2 > 0, Choices: []api.Choice{{Path: "/a"}, {Path: "/b"}}}
		must(t, store.Alt(w.Disk(), x))
		want += name + []string{" auto", " manual"}[i%2] + " /a\n"
	}
	return w, want
}

func verified(t *testing.T, what string, w *admin.World, want string) {
	t.Helper()
	if got, e := tools.Verify(w); got != want || e != api.OK {
		t.Errorf("Verify %s: %d %q, want %q", what, e, got, want)
	}
}

func TestVerify(t *testing.T) {
	t.Parallel()
	verified(t, "a new world", admin.New(), "")
	w := world(t, `package a 2
file /a 0644 0 0 32
file /d/a 0644 0 0 61
package b 1
file /b 0644 0 0 62
package a 1
file /a 0644 0 0 61
conffile /c 0644 0 0 63
dir /d 0755 0 0
link /d/l 0777 0 0 61
file /m 0644 0 0 6d
file /o 0644 0 0 6f
file /v 0644 0 0 76
package c 1
file /e 0644 0 0 65
`)
	verified(t, "packages of which none is unpacked", w, "")
	all(t, w, "divert /v - - keep\noverride /o 0400 0 0 once later\nunpack b 1\nunpack a 1\nconfigure a\n")
	// Conffiles are placed, too.
	verified(t, "all as it came", w, "")
	write(t, w.Disk(), "/a", "other")
	write(t, w.Disk(), "/c", "mine")
	write(t, w.Disk(), "/e", "of nobody")
	unlink(t, w.Disk(), "/b")
	unlink(t, w.Disk(), "/d/l")
	must(t, w.Disk().Do(api.Op{Kind: api.OMkdir, Path: "/d/l"}))
	unlink(t, w.Disk(), "/v.distrib")
	must(t, w.Disk().Do(api.Op{Kind: api.OChmod, Path: "/m", Meta: api.Meta{Mode: 0o600}}))
	must(t, w.Disk().Do(api.Op{Kind: api.OChmod, Path: "/d", Meta: api.Meta{Mode: 0o700}}))
	const of = "a text - /a\na text c /c\na kind - /d/l\na meta - /m\na missing - /v\n"
	verified(t, "what was changed", w, of+"b missing - /b\n")
	all(t, w, "override /o 0600 0 0 force later\n")
	verified(t, "what is overridden later", w, "a text - /a\na text c /c\na kind - /d/l\na meta - /m\na meta - /o\na missing - /v\nb missing - /b\n")
	all(t, w, "override /o 0600 0 0 force update\nremove b\n")
	verified(t, "what was removed", w, of)
	all(t, w, "remove a\n")
	verified(t, "conffiles that are left", w, "")
}

// What the world does not know of is of no package of its.
func TestVerifyWithoutPackages(t *testing.T) {
	t.Parallel()
	for _, pool := range []string{"", "package b 1\nfile /a 0644 0 0 61\n", "package a 2\nfile /a 0644 0 0 61\n"} {
		w := world(t, pool)
		must(t, store.Records(w.Disk(), []api.Record{{Name: "a", Version: "1", State: api.SInstalled}}))
		must(t, store.List(w.Disk(), api.List{Name: "a", Paths: []string{"/a"}}))
		verified(t, "with "+pool, w, "")
		all(t, w, "package a 1\nfile /a 0644 0 0 61\n")
		verified(t, "with its package, too", w, "a missing - /a\n")
	}
}

package tools_test

import (
	"fmt"
	"slices"
	"strings"
	"testing"

	"cellarer/admin"
	"cellarer/api"
	"cellarer/disk"
	"cellarer/script"
	"cellarer/tools"
)

const (
	home   = "/var/lib/dpkg/"
	lockAt = home + "lock"
)

// settled makes diversions, overrides, alternatives, and packages of each kind of
// state, of which some can be configured.
const settled = `package p 1
dir /opt 0755 0 0
file /opt/a 0755 0 0 61
file /opt/b 0755 0 0 62
file /opt/c 0755 0 0 63
conffile /opt/conf 0644 0 0 64
package a 1
depends b, c | x
file /a 0644 0 0 61
package b 1
depends d
package c 1
depends p
package d 1
package s 1
depends none
unpack p 1
configure p
unpack a 1
unpack b 1
unpack d 1
unpack c 1
unpack s 1
divert /usr/b - - keep
divert /opt/z /opt/z.p p keep
override /a 0400 1 2 once later
override /opt/a 4755 0 5 once update
install ed /ed /opt/a -1
install ed /ed /opt/b -1
install ex /ex /opt/c 1
set ex /opt/c
install vi /vi /opt/a 5 vi.1 /vi.1 /opt/a vi.2 /vi.2 -
install vi /vi /opt/b 9 vi.2 /vi.2 /opt/b
install vi /vi /opt/c 7
`

const selections = "ed auto /opt/a\nex manual /opt/c\nvi auto /opt/b\n"

func must(t *testing.T, e api.Errno) {
	t.Helper()
	if e != api.OK {
		t.Fatal(e)
	}
}

// line is that of a text.
func line(t *testing.T, s string) api.Line {
	t.Helper()
	x, ok := script.Line(s)
	if !ok {
		t.Fatalf("no line: %q", s)
	}
	return x
}

// world is one in which the lines of a text were done, each without an error.
func world(t *testing.T, text string) *admin.World {
	t.Helper()
	w := admin.New()
	all(t, w, text)
	return w
}

// all does the lines of a text in a world, each without an error.
func all(t *testing.T, w *admin.World, text string) {
	t.Helper()
	for s := range strings.Lines(text) {
		s = strings.TrimSuffix(s, "\n")
		if got := w.Do(line(t, s)); got.Code != api.OK {
			t.Fatalf("%s: %d", s, got.Code)
		}
	}
}

// write writes into a file of a disk, which may be made by that.
func write(t *testing.T, d *disk.Disk, p, text string) {
	t.Helper()
	d.Do(api.Op{Kind: api.OCreate, Path: p, Meta: api.Meta{Mode: 0o644}})
	must(t, d.Do(api.Op{Kind: api.OWrite, Path: p, Text: text}))
	must(t, d.Sync(p))
}

func unlink(t *testing.T, d *disk.Disk, p string) {
	t.Helper()
	must(t, d.Do(api.Op{Kind: api.OUnlink, Path: p}))
	must(t, d.Sync("/"))
}

// sight is all that a world tells.
func sight(w *admin.World) string {
	d := w.Disk()
	st, e := w.State()
	return fmt.Sprint(d.Image(), d.Kept(), d.Dirty(), d.Steps(), d.Pending(), d.On(), w.Pool(), st, e)
}

func loads(t *testing.T, w *admin.World) api.State {
	t.Helper()
	st, e := w.State()
	must(t, e)
	return st
}

// told is an answer as one text, which is empty if there is none.
func told(text string, e api.Errno) (string, api.Errno) { return text, e }

func listed[T any](l []T, e api.Errno) (string, api.Errno) {
	if len(l) == 0 {
		return "", e
	}
	return fmt.Sprint(l), e
}

// call is a call with its arguments, and what it answers in a settled world.
type call struct {
	what string
	do   func(w *admin.World) (string, api.Errno)
	e    api.Errno
}

// queries are the calls that only ask, with arguments of all kinds.
var queries = []call{
	{"List", func(w *admin.World) (string, api.Errno) { return told(tools.List(w, "*")) }, api.OK},
	{"List of nothing", func(w *admin.World) (string, api.Errno) { return told(tools.List(w, "/none")) }, api.OK},
	{"List of no pattern", func(w *admin.World) (string, api.Errno) { return told(tools.List(w, "[")) }, api.EFORM},
	{"Display", func(w *admin.World) (string, api.Errno) { return told(tools.Display(w, "vi")) }, api.OK},
	{"Display of none", func(w *admin.World) (string, api.Errno) { return told(tools.Display(w, "none")) }, api.ENOENT},
	{"Selections", func(w *admin.World) (string, api.Errno) { return told(tools.Selections(w)) }, api.OK},
	{"Verify", func(w *admin.World) (string, api.Errno) { return told(tools.Verify(w)) }, api.OK},
}

// commands are those that may change something; idle ones do not.
var commands = []call{
	{"Select", func(w *admin.World) (string, api.Errno) {
		return listed(tools.Select(w, "vi manual /opt/a\ned auto /opt/b\n"))
	}, api.OK},
	{"Pending", func(w *admin.World) (string, api.Errno) { return listed(tools.Pending(w)) }, api.OK},
}

var idle = []call{
	{"Select of nothing", func(w *admin.World) (string, api.Errno) { return listed(tools.Select(w, "")) }, api.OK},
	{"Select of another form", func(w *admin.World) (string, api.Errno) { return listed(tools.Select(w, "vi auto")) }, api.EFORM},
	{"Select of one line of another form", func(w *admin.World) (string, api.Errno) {
		return listed(tools.Select(w, "vi manual /opt/a\nvi by /opt/b\n"))
	}, api.EFORM},
}

func every() []call { return slices.Concat(queries, commands, idle) }

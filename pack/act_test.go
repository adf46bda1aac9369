package pack_test

import (
	"fmt"
	"math"
	"slices"
	"strings"
	"testing"

	"cellarer/api"
	"cellarer/pack"
)

// P19.1

func TestReserved(t *testing.T) {
	for _, p := range []string{
		"/var/lib/dpkg", "/var/lib/dpkg/status", "/var/lib/dpkg/info/a.list", "/var/lib/dpkg//",
		"/etc/alternatives", "/etc/alternatives/vi", "/etc/alternatives/a/b",
		"/a.dpkg-new", "/a.dpkg-tmp", "/a.dpkg-dist", "/a/b.dpkg-dist", "/.dpkg-new", ".dpkg-tmp", "a.dpkg-dist", "/a.dpkg-tmp.dpkg-new", "/a .dpkg-new",
	} {
		if !pack.Reserved(p) {
			t.Errorf("Reserved(%q): false", p)
		}
	}
	for _, p := range []string{
		"", "/", "/a", "/var", "/var/lib", "/var/lib/", "/var/lib/dpkg/", "/var/lib/dpkgs", "/var/lib/dpkg.old", "/var/lib/dpk", "/lib/dpkg/a", "/x/var/lib/dpkg/a",
		"/etc", "/etc/alternatives/", "/etc/alternative", "/etc/alternatives.d/a", "/x/etc/alternatives",
		"/a.dpkg-new/b", "/a.dpkg-tmp/", "/a.dpkg-dist2", "/a.dpkg-", "/a.dpkg-old", "/a.dpkg", "/adpkg-new", "/a.DPKG-NEW", "/a.dpkg-new ", "/dpkg-new",
		"var/lib/dpkg", "var/lib/dpkg/a", "//var/lib/dpkg/a",
	} {
		if pack.Reserved(p) {
			t.Errorf("Reserved(%q): true", p)
		}
	}
}

// What may stand in a field of a command; the words are those of the document.
const (
	anyText  = "any text"
	aPlace   = "a place"
	maybe    = "a place or empty"
	aLink    = "a link"
	aName    = "a name"
	noOrName = "path.Name or empty"
	aTrigger = "a trigger"
)

// sized is a text of a length, made of some beginning.
func sized(beginning string, n int) string { return beginning + strings.Repeat("a", n-len(beginning)) }

var (
	path191 = sized("/a/", 191)
	path192 = sized("/a/", 192)
	path200 = sized("/a/", 200)
	name60  = strings.Repeat("a", 60)
	tmp60   = sized("", 60-len(".dpkg-tmp")) + ".dpkg-tmp"
)

// allows are, for each text that is tried, in which fields it may stand.
var allows = []struct {
	s  string
	in []string
}{
	{"", []string{maybe, noOrName}},
	{"/a", []string{aPlace, maybe, aLink, aTrigger}},
	{"/a/b.c", []string{aPlace, maybe, aLink, aTrigger}},
	{path191, []string{aPlace, maybe, aLink, aTrigger}},
	{path192, []string{aPlace, maybe, aTrigger}},
	{path200, []string{aPlace, maybe, aTrigger}},
	{path200 + "a", nil},
	{"/", []string{aTrigger}},
	{"/var/lib/dpkg", []string{aTrigger}},
	{"/var/lib/dpkg/status", []string{aTrigger}},
	{"/var/lib/dpkgs", []string{aPlace, maybe, aLink, aTrigger}},
	{"/etc/alternatives", []string{aTrigger}},
	{"/etc/alternatives/a", []string{aTrigger}},
	{"/etc", []string{aPlace, maybe, aLink, aTrigger}},
	{"/a.dpkg-new", []string{aTrigger}},
	{"/a.dpkg-tmp", []string{aTrigger}},
	{"/a.dpkg-dist", []string{aTrigger}},
	{"/a.dpkg-dist/b", []string{aPlace, maybe, aLink, aTrigger}},
	{"/a/", nil}, {"//a", nil}, {"/a/../b", nil}, {"/./a", nil}, {"/a b", nil}, {"/a\n", nil}, {"/\x7f", nil}, {"/\xff", nil},
	{"/A", []string{aPlace, maybe, aLink, aTrigger}},
	{"a", []string{aName, noOrName, aTrigger}},
	{"0a+b-c.d", []string{aName, noOrName, aTrigger}},
	{name60, []string{aName, noOrName, aTrigger}},
	{name60 + "a", nil},
	{"a.dpkg-new", []string{noOrName, aTrigger}},
	{"a.dpkg-tmp", []string{noOrName, aTrigger}},
	{"a.dpkg-dist", []string{noOrName, aTrigger}},
	{tmp60, []string{noOrName, aTrigger}},
	{"a.dpkg-dist2", []string{aName, noOrName, aTrigger}},
	{"dpkg-new", []string{aName, noOrName, aTrigger}},
	{".dpkg-new", nil}, {"A", nil}, {"-a", nil}, {"+", nil}, {"a b", nil}, {"a_b", nil}, {"a/b", nil}, {":", nil}, {" ", nil}, {"a\n", nil}, {"\x00", nil}, {"ä", nil},
}

// P19.2

// acts are all kinds, what their fields may be, and a command of each.
var acts = []struct {
	act            api.Act
	path, to, name string
	meta           bool // whether the meta is of matter
	slaves         bool // and prio, slaves and paths
}{
	{act: api.Act{Kind: 1, Path: "/a"}, path: aPlace, to: maybe, name: noOrName},
	{act: api.Act{Kind: 2, Path: "/a"}, path: aPlace, to: anyText, name: noOrName},
	{act: api.Act{Kind: 3, Path: "/a"}, path: aPlace, to: anyText, name: anyText, meta: true},
	{act: api.Act{Kind: 4, Path: "/a"}, path: aPlace, to: anyText, name: anyText},
	{act: api.Act{Kind: 5, Name: "a", To: "/l", Path: "/a"}, path: aPlace, to: aLink, name: aName, slaves: true},
	{act: api.Act{Kind: 6, Name: "a", Path: "/a"}, path: aPlace, to: anyText, name: aName},
	{act: api.Act{Kind: 7, Name: "a"}, path: anyText, to: anyText, name: aName},
	{act: api.Act{Kind: 8, Name: "a", Path: "/a"}, path: aPlace, to: anyText, name: aName},
	{act: api.Act{Kind: 9, Name: "a"}, path: anyText, to: anyText, name: aName},
	{act: api.Act{Kind: 10, Name: "a"}, path: anyText, to: anyText, name: aTrigger},
}

// full is a command in which all that is of no matter to its kind is set, too.
func full(kind int) api.Act {
	return api.Act{
		Kind: kind, Name: "a", Path: "/a", To: "/b", Meta: api.Meta{Mode: 4095, Uid: api.MaxId, Gid: api.MaxId}, Prio: 5, Flag: true, Force: true,
		Slaves: []api.Slave{{Name: "a.1", Link: "/l1"}, {Name: "a.2", Link: "/l2"}}, Paths: []string{"/b1", ""},
	}
}

func holdsAct(t *testing.T, a api.Act, want bool) {
	t.Helper()
	before := fmt.Sprintf("%#v", a)
	if got := pack.Act(a); got != want {
		t.Errorf("Act(%#v): %v", a, got)
	}
	if fmt.Sprintf("%#v", a) != before {
		t.Errorf("Act changed %s", before)
	}
}

func TestActTexts(t *testing.T) {
	for _, c := range acts {
		for _, a := range []api.Act{c.act, full(c.act.Kind)} {
			holdsAct(t, a, true)
			for _, x := range allows {
				may := func(role string) bool { return role == anyText || slices.Contains(x.in, role) }
				other := a
				other.Path = x.s
				holdsAct(t, other, may(c.path))
				other = a
				other.To = x.s
				holdsAct(t, other, may(c.to))
				other = a
				other.Name = x.s
				holdsAct(t, other, may(c.name))
			}
		}
	}
}

func TestActKinds(t *testing.T) {
	for _, kind := range []int{math.MinInt, -1, 0, 11, 12, 20, 257, math.MaxInt} {
		holdsAct(t, full(kind), false)
	}
	holdsAct(t, api.Act{}, false)
	for kind := 1; kind <= 10; kind++ {
		holdsAct(t, api.Act{Kind: kind}, false)
	}
}

func TestActMetas(t *testing.T) {
	for _, c := range acts {
		a := full(c.act.Kind)
		for _, m := range []api.Meta{{}, {Mode: 4095}, {Uid: api.MaxId}, {Gid: api.MaxId}} {
			a.Meta = m
			holdsAct(t, a, true)
		}
		for _, m := range []api.Meta{{Mode: -1}, {Mode: 4096}, {Uid: -1}, {Uid: api.MaxId + 1}, {Gid: -1}, {Gid: api.MaxId + 1}} {
			a.Meta = m
			holdsAct(t, a, !c.meta)
		}
	}
}

func TestActPrios(t *testing.T) {
	for _, c := range acts {
		a := full(c.act.Kind)
		for _, n := range []int{0, -1, math.MinInt32, math.MaxInt32} {
			a.Prio = n
			holdsAct(t, a, true)
		}
		for _, n := range []int{math.MinInt32 - 1, math.MaxInt32 + 1, math.MinInt, math.MaxInt} {
			a.Prio = n
			holdsAct(t, a, !c.slaves)
		}
	}
}

func manySlaves(n int) []api.Slave {
	var out []api.Slave
	for i := range n {
		out = append(out, api.Slave{Name: fmt.Sprintf("a%02d", i), Link: fmt.Sprintf("/a%02d", i)})
	}
	return out
}

func TestActSlaves(t *testing.T) {
	for _, c := range acts {
		a := full(c.act.Kind)
		for n := range 20 {
			for m := range 20 {
				a.Slaves, a.Paths = manySlaves(n), slices.Repeat([]string{"/b"}, m)
				holdsAct(t, a, !c.slaves || n == m && n <= 8)
			}
		}
		for _, x := range allows {
			may := func(role string) bool { return !c.slaves || slices.Contains(x.in, role) }
			for i := range 2 {
				other := full(c.act.Kind)
				other.Slaves[i].Name = x.s
				holdsAct(t, other, may(aName))
				other = full(c.act.Kind)
				other.Slaves[i].Link = x.s
				holdsAct(t, other, may(aLink))
				other = full(c.act.Kind)
				other.Paths[i] = x.s
				holdsAct(t, other, may(maybe))
			}
		}
		// What does not fit together is for others to find: a name or a link
		// may be there twice, and in any order.
		a = full(c.act.Kind)
		a.Slaves = []api.Slave{{Name: "b", Link: "/b"}, {Name: "a", Link: a.To}, {Name: "a", Link: "/b"}}
		a.Paths = []string{"/a", "/a", "/a"}
		holdsAct(t, a, true)
		a.Slaves, a.Paths = []api.Slave{}, []string{}
		holdsAct(t, a, true)
	}
}

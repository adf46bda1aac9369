package choose_test

import (
	"fmt"
	"maps"
	"math"
	"math/rand/v2"
	"slices"
	"strings"
	"testing"

	"cellarer/alts"
	"cellarer/api"
	"cellarer/choose"
)

// vi is an alternative that may be: /b is its best choice.
func vi() api.Alt {
	return api.Alt{
		Name: "vi", Link: "/vi", Cur: "/b",
		Slaves: []api.Slave{{Name: "vi.1", Link: "/vi.1"}, {Name: "vi.3", Link: "/vi.3"}},
		Choices: []api.Choice{
			{Path: "/a", Prio: 5, Slaves: []string{"/a.1", "/a.3"}},
			{Path: "/b", Prio: 9, Slaves: []string{"", "/b.3"}},
			{Path: "/c", Prio: 5, Slaves: []string{"/c.1", ""}},
		},
	}
}

// ed is an alternative without slaves.
func ed() api.Alt {
	return api.Alt{Name: "ed", Link: "/ed", Cur: "/a", Choices: []api.Choice{{Path: "/a", Prio: -1}}}
}

func given() []api.Alt { return []api.Alt{ed(), vi()} }

// manual is an alternative for which a choice was taken.
func manual(x api.Alt, p string) api.Alt {
	x.Manual, x.Cur = true, p
	return x
}

// cur is an alternative with another current choice.
func cur(x api.Alt, p string) api.Alt {
	x.Cur = p
	return x
}

// show is alternatives as a text, in which lists that are nil and empty are equal.
func show(l ...api.Alt) string {
	var out strings.Builder
	for _, x := range l {
		fmt.Fprintf(&out, "%q %q %v %q %q\n", x.Name, x.Link, x.Manual, x.Cur, x.Slaves)
		for _, c := range x.Choices {
			fmt.Fprintf(&out, "%q %d %q\n", c.Path, c.Prio, c.Slaves)
		}
	}
	return out.String()
}

// spared is a list of the same elements with something behind its end, which
// nobody may touch.
func spared[T any](l []T, spare T) []T {
	out := append(slices.Clone(l), spare)
	return out[:len(l)]
}

// frozen is alternatives whose lists all have something behind their ends.
func frozen(l []api.Alt) []api.Alt {
	out := spared(l, api.Alt{Name: "spare"})
	for i, x := range out {
		x.Slaves = spared(x.Slaves, api.Slave{Name: "spare"})
		x.Choices = spared(x.Choices, api.Choice{Path: "/spare"})
		for j, c := range x.Choices {
			x.Choices[j].Slaves = spared(c.Slaves, "/spare")
		}
		out[i] = x
	}
	return out
}

// whole is all of alternatives, with what is behind their ends.
func whole(l []api.Alt) string {
	var out []api.Alt
	for _, x := range l[:cap(l)] {
		x.Slaves, x.Choices = x.Slaves[:cap(x.Slaves)], slices.Clone(x.Choices[:cap(x.Choices)])
		for i, c := range x.Choices {
			x.Choices[i].Slaves = c.Slaves[:cap(c.Slaves)]
		}
		out = append(out, x)
	}
	return show(out...)
}

// call is a call of the package for some alternatives.
type call func(l []api.Alt) ([]api.Alt, api.Errno)

func install(name, link, p string, prio int, more ...string) call {
	c := api.Choice{Path: p, Prio: prio}
	var slaves []api.Slave
	for i := 0; i < len(more); i += 3 {
		slaves = append(slaves, api.Slave{Name: more[i], Link: more[i+1]})
		c.Slaves = append(c.Slaves, more[i+2])
	}
	return put(name, link, c, slaves)
}

// put is Install, by which what was given is not changed.
func put(name, link string, c api.Choice, slaves []api.Slave) call {
	return func(l []api.Alt) ([]api.Alt, api.Errno) {
		c.Slaves, slaves = spared(c.Slaves, "/spare"), spared(slaves, api.Slave{Name: "spare"})
		before := fmt.Sprint(c.Slaves[:cap(c.Slaves)], slaves[:cap(slaves)])
		out, e := choose.Install(l, name, link, c, slaves)
		if fmt.Sprint(c.Slaves[:cap(c.Slaves)], slaves[:cap(slaves)]) != before {
			panic("an argument was changed")
		}
		return out, e
	}
}

func remove(name, p string) call {
	return func(l []api.Alt) ([]api.Alt, api.Errno) { return choose.Remove(l, name, p) }
}

func all(name string) call {
	return func(l []api.Alt) ([]api.Alt, api.Errno) { return choose.All(l, name) }
}

func set(name, p string) call {
	return func(l []api.Alt) ([]api.Alt, api.Errno) { return choose.Set(l, name, p) }
}

func auto(name string) call {
	return func(l []api.Alt) ([]api.Alt, api.Errno) { return choose.Auto(l, name) }
}

// answers holds what a call tells against what it is to tell, and sees that its
// argument stays.
func (c call) answers(t *testing.T, what string, l, want []api.Alt, e api.Errno) {
	t.Helper()
	arg := frozen(l)
	before := whole(arg)
	if got, f := c(arg); show(got...) != show(want...) || f != e {
		t.Errorf("%s: %d %s, want %d %s", what, f, show(got...), e, show(want...))
	}
	if whole(arg) != before {
		t.Errorf("%s changed its argument", what)
	}
}

// P17.1

func TestInstallNew(t *testing.T) {
	longest := strings.Repeat("n", api.MaxName)
	for _, c := range []struct {
		call call
		want api.Alt
	}{
		{install("x", "/x", "/p", 5), api.Alt{Name: "x", Link: "/x", Cur: "/p", Choices: []api.Choice{{Path: "/p", Prio: 5}}}},
		{install("aa", "/x", "/a", math.MinInt32), api.Alt{Name: "aa", Link: "/x", Cur: "/a", Choices: []api.Choice{{Path: "/a", Prio: math.MinInt32}}}},
		{install(longest, "/x", "/x", math.MaxInt32), api.Alt{Name: longest, Link: "/x", Cur: "/x", Choices: []api.Choice{{Path: "/x", Prio: math.MaxInt32}}}},
		{
			install("f", "/x", "/p", 0, "s", "/s", "", "q", "/q", "/p.q", "r", "/a", "/p.r"),
			api.Alt{Name: "f", Link: "/x", Cur: "/p",
				Slaves:  []api.Slave{{Name: "q", Link: "/q"}, {Name: "r", Link: "/a"}, {Name: "s", Link: "/s"}},
				Choices: []api.Choice{{Path: "/p", Slaves: []string{"/p.q", "/p.r", ""}}}},
		},
	} {
		c.call.answers(t, "Install of "+c.want.Name, given(), alts.Put(given(), c.want), api.OK)
		c.call.answers(t, "Install among none of "+c.want.Name, nil, []api.Alt{c.want}, api.OK)
	}
}

// others is an alternative's slaves: of so many.
func others(n int) ([]api.Slave, []string) {
	var slaves []api.Slave
	var targets []string
	for i := range n {
		slaves = append(slaves, api.Slave{Name: fmt.Sprintf("s%02d", i), Link: fmt.Sprintf("/s/%02d", i)})
		targets = append(targets, fmt.Sprintf("/t/%02d", i))
	}
	return slaves, targets
}

// What is not right for itself goes ahead of what it is not right beside.
func TestInstallWrong(t *testing.T) {
	slaves, targets := others(api.MaxList + 1)
	s := []api.Slave{{Name: "s", Link: "/s"}}
	for i, c := range []call{
		put("x", "/x", api.Choice{Path: "/p"}, s),
		put("x", "/x", api.Choice{Path: "/p", Slaves: []string{"/t"}}, nil),
		put("x", "/x", api.Choice{Path: "/p", Slaves: []string{"/t", "/t"}}, s),
		put("vi", "/vi", api.Choice{Path: "/a"}, s),
		put("vi", "/other", api.Choice{Path: "/a", Slaves: []string{"/t", "/t"}}, s),
		put("x", "/x", api.Choice{Path: "/p", Slaves: targets}, slaves),
		put("vi", "/other", api.Choice{Path: "/p", Slaves: targets}, slaves),
		install("", "/x", "/p", 0),
		install("X", "/x", "/p", 0),
		install(strings.Repeat("n", api.MaxName+1), "/x", "/p", 0),
		install("x", "", "/p", 0),
		install("x", "/", "/p", 0),
		install("x", "x", "/p", 0),
		install("vi", "/vi/", "/p", 0),
		install("x", "/"+strings.Repeat("n", api.MaxPath), "/p", 0),
		install("x", "/x", "", 0),
		install("x", "/x", "/", 0),
		install("x", "/x", "p", 0),
		install("x", "/x", "/p/../q", 0),
		install("vi", "/vi", "/", 0),
		install("vi", "/other", "/", 0),
		install("x", "/x", "/p", math.MinInt32-1),
		install("x", "/x", "/p", math.MaxInt32+1),
		install("x", "/x", "/p", 0, "", "/s", "/t"),
		install("x", "/x", "/p", 0, "S", "/s", "/t"),
		install("x", "/x", "/p", 0, "s", "", "/t"),
		install("x", "/x", "/p", 0, "s", "/", "/t"),
		install("x", "/x", "/p", 0, "s", "/s", "/"),
		install("x", "/x", "/p", 0, "s", "/s", "t"),
		install("x", "/x", "/p", 0, "x", "/s", "/t"),
		install("x", "/x", "/p", 0, "s", "/x", "/t"),
		install("x", "/x", "/p", 0, "s", "/s", "/t", "s", "/s", "/t"),
		install("x", "/x", "/p", 0, "s", "/s", "/t", "r", "/r", "", "s", "/q", "/t"),
		install("x", "/x", "/p", 0, "s", "/s", "/t", "r", "/s", "/t"),
		install("vi", "/vi", "/a", 0, "vi.1", "/vi.1", "/a.1", "vi.1", "/vi.1", "/a.1"),
		install("vi", "/vi", "/a", 0, "vi.1", "/other", "/a.1", "vi.2", "/other", "/a.1"),
		install("ed", "/other", "/a", 0, "ed", "/s", "/t"),
	} {
		what := fmt.Sprint("wrong ", i)
		c.answers(t, what, given(), nil, api.EARG)
		c.answers(t, what, nil, nil, api.EARG)
		c.answers(t, what, many(api.MaxList+1), nil, api.EARG)
	}
}

// many is so many alternatives.
func many(n int) []api.Alt {
	var out []api.Alt
	for i := range n {
		out = append(out, api.Alt{Name: fmt.Sprintf("m%02d", i), Link: fmt.Sprintf("/m%02d", i), Cur: "/a", Choices: []api.Choice{{Path: "/a"}}})
	}
	return out
}

func TestInstallClash(t *testing.T) {
	for i, c := range []call{
		// Other links than its own.
		install("vi", "/other", "/a", 5),
		install("vi", "/ed", "/a", 5),
		install("vi", "/vi", "/a", 5, "vi.1", "/other", "/a.1"),
		install("vi", "/vi", "/z", 5, "vi.1", "/vi.1", "/a.1", "vi.3", "/vi.1.1", ""),
		install("vi", "/vi", "/a", 5, "new", "/new", "", "vi.3", "/vi3", "/a.1"),
		// Names and links of others.
		install("x", "/vi", "/a", 5),
		install("x", "/vi.3", "/a", 5),
		install("x", "/ed", "/a", 5),
		install("vi.1", "/x", "/a", 5),
		install("x", "/x", "/a", 5, "vi", "/s", "/t"),
		install("x", "/x", "/a", 5, "vi.3", "/s", "/t"),
		install("x", "/x", "/a", 5, "vi.3", "/vi.3", "/t"),
		install("x", "/x", "/a", 5, "s", "/vi", "/t"),
		install("x", "/x", "/a", 5, "s", "/vi.3", "/t"),
		install("ed", "/ed", "/a", 5, "vi", "/s", "/t"),
		install("ed", "/ed", "/a", 5, "s", "/vi.1", "/t"),
		install("vi", "/vi", "/a", 5, "ed", "/s", "/t"),
		// A new slave with a link of its own alternative's.
		install("vi", "/vi", "/a", 5, "s", "/vi.1", "/t"),
		install("vi", "/vi", "/a", 5, "s", "/vi.3", "/t"),
	} {
		c.answers(t, fmt.Sprint("clash ", i), given(), nil, api.EALT)
	}
}

func TestInstallMore(t *testing.T) {
	v := vi()
	with := func(x api.Alt, choices ...api.Choice) api.Alt {
		x.Choices = choices
		return x
	}
	grown := api.Alt{Name: "vi", Link: "/vi", Cur: "/b",
		Slaves: []api.Slave{{Name: "a", Link: "/s.a"}, {Name: "vi.1", Link: "/vi.1"}, {Name: "vi.2", Link: "/s.2"}, {Name: "vi.3", Link: "/vi.3"}, {Name: "z", Link: "/s.z"}}}
	for _, c := range []struct {
		call call
		old  api.Alt
		want api.Alt
	}{
		// One more: better, as good, worse; first, between, last.
		{install("vi", "/vi", "/z", 10), v, cur(with(v, v.Choices[0], v.Choices[1], v.Choices[2], api.Choice{Path: "/z", Prio: 10, Slaves: []string{"", ""}}), "/z")},
		{install("vi", "/vi", "/bb", 9), v, with(v, v.Choices[0], v.Choices[1], api.Choice{Path: "/bb", Prio: 9, Slaves: []string{"", ""}}, v.Choices[2])},
		{install("vi", "/vi", "/A", 9), v, cur(with(v, api.Choice{Path: "/A", Prio: 9, Slaves: []string{"", ""}}, v.Choices[0], v.Choices[1], v.Choices[2]), "/A")},
		{install("vi", "/vi", "/z", 8), v, with(v, v.Choices[0], v.Choices[1], v.Choices[2], api.Choice{Path: "/z", Prio: 8, Slaves: []string{"", ""}})},
		// The same again: nothing of it stays.
		{install("vi", "/vi", "/a", 5, "vi.1", "/vi.1", "/a.1", "vi.3", "/vi.3", "/a.3"), v, v},
		{install("vi", "/vi", "/a", 5, "vi.3", "/vi.3", "/a.3", "vi.1", "/vi.1", "/a.1"), v, v},
		{install("vi", "/vi", "/a", 5), v, with(v, api.Choice{Path: "/a", Prio: 5, Slaves: []string{"", ""}}, v.Choices[1], v.Choices[2])},
		{install("vi", "/vi", "/a", 5, "vi.3", "/vi.3", "/new"), v, with(v, api.Choice{Path: "/a", Prio: 5, Slaves: []string{"", "/new"}}, v.Choices[1], v.Choices[2])},
		{install("vi", "/vi", "/b", 5), v, cur(with(v, v.Choices[0], api.Choice{Path: "/b", Prio: 5, Slaves: []string{"", ""}}, v.Choices[2]), "/a")},
		{install("vi", "/vi", "/c", 9), v, with(v, v.Choices[0], v.Choices[1], api.Choice{Path: "/c", Prio: 9, Slaves: []string{"", ""}})},
		{install("vi", "/vi", "/c", 10), v, cur(with(v, v.Choices[0], v.Choices[1], api.Choice{Path: "/c", Prio: 10, Slaves: []string{"", ""}}), "/c")},
		// One that was taken by hand stays.
		{install("vi", "/vi", "/z", 10), manual(v, "/a"), manual(with(v, v.Choices[0], v.Choices[1], v.Choices[2], api.Choice{Path: "/z", Prio: 10, Slaves: []string{"", ""}}), "/a")},
		{install("vi", "/vi", "/b", -9), manual(v, "/b"), manual(with(v, v.Choices[0], api.Choice{Path: "/b", Prio: -9, Slaves: []string{"", ""}}, v.Choices[2]), "/b")},
		// Slaves that are new, mentioned, and not mentioned.
		{
			install("vi", "/vi", "/bb", 2, "z", "/s.z", "/bb.z", "vi.2", "/s.2", "", "vi.3", "/vi.3", "/bb.3", "a", "/s.a", "/bb.a"), v,
			with(grown,
				api.Choice{Path: "/a", Prio: 5, Slaves: []string{"", "/a.1", "", "/a.3", ""}},
				api.Choice{Path: "/b", Prio: 9, Slaves: []string{"", "", "", "/b.3", ""}},
				api.Choice{Path: "/bb", Prio: 2, Slaves: []string{"/bb.a", "", "", "/bb.3", "/bb.z"}},
				api.Choice{Path: "/c", Prio: 5, Slaves: []string{"", "/c.1", "", "", ""}}),
		},
		{
			install("ed", "/ed", "/a", -1, "s", "/s", "/a.s"), ed(),
			api.Alt{Name: "ed", Link: "/ed", Cur: "/a", Slaves: []api.Slave{{Name: "s", Link: "/s"}}, Choices: []api.Choice{{Path: "/a", Prio: -1, Slaves: []string{"/a.s"}}}},
		},
	} {
		l := alts.Put(given(), c.old)
		c.call.answers(t, "Install to "+show(c.old), l, alts.Put(given(), c.want), api.OK)
	}
}

// An alternative that may not be is put in order as far as that goes.
func TestInstallToWrong(t *testing.T) {
	short := vi()
	short.Choices[0].Slaves = nil
	short.Choices[1].Slaves = []string{"", "/b.3", "/more"}
	short.Choices[2].Slaves = []string{"/c.1"}
	mixed := api.Alt{Name: "vi", Link: "/vi", Cur: "/none",
		Slaves:  []api.Slave{{Name: "z", Link: "/z"}, {Name: "b", Link: "/b"}},
		Choices: []api.Choice{{Path: "/d", Slaves: []string{"/d.z", "/d.b"}}, {Path: "/c", Slaves: []string{"/c.z"}}, {Path: "/d", Slaves: []string{"/no", "/no"}}}}
	sorted := api.Alt{Name: "vi", Link: "/vi", Cur: "/c",
		Slaves:  []api.Slave{{Name: "b", Link: "/b"}, {Name: "s", Link: "/s"}, {Name: "z", Link: "/z"}},
		Choices: []api.Choice{{Path: "/c", Slaves: []string{"", "", "/c.z"}}, {Path: "/d", Prio: -7, Slaves: []string{"", "/d.s", ""}}}}
	none := api.Alt{Name: "vi", Link: "/vi", Manual: true, Cur: "/p"}
	for _, c := range []struct {
		what string
		call call
		old  api.Alt
		want api.Alt
	}{
		{"too few and too many", install("vi", "/vi", "/d", 0), short, api.Alt{Name: "vi", Link: "/vi", Cur: "/b", Slaves: vi().Slaves, Choices: []api.Choice{
			{Path: "/a", Prio: 5, Slaves: []string{"", ""}}, {Path: "/b", Prio: 9, Slaves: []string{"", "/b.3"}}, {Path: "/c", Prio: 5, Slaves: []string{"/c.1", ""}}, {Path: "/d", Slaves: []string{"", ""}}}}},
		{"not in order", install("vi", "/vi", "/d", -7, "s", "/s", "/d.s"), mixed, sorted},
		{"slaves not in order", install("vi", "/vi", "/c", 0), api.Alt{Name: "vi", Link: "/vi", Cur: "/d", Slaves: mixed.Slaves, Choices: mixed.Choices[:1]}, api.Alt{Name: "vi", Link: "/vi", Cur: "/c",
			Slaves: []api.Slave{{Name: "b", Link: "/b"}, {Name: "z", Link: "/z"}}, Choices: []api.Choice{{Path: "/c", Slaves: []string{"", ""}}, {Path: "/d", Slaves: []string{"/d.b", "/d.z"}}}}},
		{"no choices", install("vi", "/vi", "/p", 1), none, api.Alt{Name: "vi", Link: "/vi", Manual: true, Cur: "/p", Choices: []api.Choice{{Path: "/p", Prio: 1}}}},
	} {
		c.call.answers(t, c.what, []api.Alt{c.old}, []api.Alt{c.want}, api.OK)
	}
}

// What can't be put in order is refused.
func TestInstallToWrongStays(t *testing.T) {
	twice := vi()
	twice.Choices = append(twice.Choices, twice.Choices[2])
	slaves := vi()
	slaves.Slaves = []api.Slave{{Name: "vi.1", Link: "/vi.1"}, {Name: "vi.1", Link: "/vi.3"}}
	own := vi()
	own.Slaves[0].Name = "vi"
	prio := vi()
	prio.Choices[0].Prio = math.MaxInt32 + 1
	target := vi()
	target.Choices[0].Slaves[0] = "/"
	for _, c := range []struct {
		what string
		call call
		l    []api.Alt
	}{
		{"a choice twice", install("vi", "/vi", "/d", 0), []api.Alt{twice}},
		{"a slave twice", install("vi", "/vi", "/d", 0), []api.Alt{slaves}},
		{"a slave twice whose first link is this", install("vi", "/vi", "/d", 0, "vi.1", "/vi.1", ""), []api.Alt{slaves}},
		{"a slave of its name", install("vi", "/vi", "/d", 0), []api.Alt{own}},
		{"a priority", install("vi", "/vi", "/d", 0), []api.Alt{prio}},
		{"a target", install("vi", "/vi", "/d", 0), []api.Alt{target}},
		{"taken by hand what is none", install("vi", "/vi", "/d", 0), []api.Alt{manual(vi(), "/none")}},
		{"an alternative twice", install("vi", "/vi", "/d", 0), []api.Alt{vi(), vi()}},
		{"an alternative twice, the second one with another link", install("vi", "/vi", "/d", 0), []api.Alt{vi(), {Name: "vi"}}},
		{"an alternative twice, the first one with another link", install("vi", "/vi", "/d", 0), []api.Alt{{Name: "vi"}, vi()}},
		{"in another order", install("vi", "/vi", "/d", 0), []api.Alt{vi(), ed()}},
		{"another one wrong", install("vi", "/vi", "/d", 0), []api.Alt{cur(ed(), "/none"), vi()}},
		{"new, another one wrong", install("x", "/x", "/d", 0), []api.Alt{cur(ed(), "/none"), vi()}},
	} {
		c.call.answers(t, c.what, c.l, nil, api.EALT)
	}
	// The one that is put in the place of two is one.
	install("vi", "/vi", "/c", 5).answers(t, "in the place of two", []api.Alt{twice}, []api.Alt{func() api.Alt {
		x := vi()
		x.Choices[2].Slaves = []string{"", ""}
		return x
	}()}, api.OK)
}

func TestInstallLimits(t *testing.T) {
	x := api.Alt{Name: "x", Link: "/x", Cur: "/a", Choices: []api.Choice{{Path: "/a"}}}
	l := many(api.MaxList - 1)
	install("x", "/x", "/a", 0).answers(t, "a 64th alternative", l, append(l, x), api.OK)
	l = many(api.MaxList)
	install("x", "/x", "/a", 0).answers(t, "a 65th alternative", l, nil, api.EFULL)
	install("x", "/m00", "/a", 0).answers(t, "a 65th alternative of another's link", l, nil, api.EFULL)
	install("m00", "/x", "/a", 0).answers(t, "another link of one of 64", l, nil, api.EALT)
	better := api.Alt{Name: "m63", Link: "/m63", Cur: "/b", Choices: []api.Choice{{Path: "/a"}, {Path: "/b", Prio: 1}}}
	install("m63", "/m63", "/b", 1).answers(t, "one of 64", l, alts.Put(l, better), api.OK)
	install("m63", "/m63", "/b", 1).answers(t, "one of 65", many(api.MaxList+1), nil, api.EFULL)

	x.Choices = nil
	for i := range api.MaxList - 1 {
		x.Choices = append(x.Choices, api.Choice{Path: fmt.Sprintf("/p%02d", i), Prio: -i})
	}
	x.Cur = "/p00"
	full := x
	full.Choices = append(slices.Clone(x.Choices), api.Choice{Path: "/p63", Prio: -63})
	install("x", "/x", "/p63", -63).answers(t, "a 64th choice", []api.Alt{x}, []api.Alt{full}, api.OK)
	install("x", "/x", "/p64", -64).answers(t, "a 65th choice", []api.Alt{full}, nil, api.EALT)
	install("x", "/x", "/p63", -63).answers(t, "one of 64 choices", []api.Alt{full}, []api.Alt{full}, api.OK)

	slaves, targets := others(api.MaxList)
	most := api.Alt{Name: "x", Link: "/x", Cur: "/a", Slaves: slaves, Choices: []api.Choice{{Path: "/a", Slaves: targets}}}
	put("x", "/x", api.Choice{Path: "/a", Slaves: targets}, slaves).answers(t, "64 slaves", nil, []api.Alt{most}, api.OK)
	none := make([]string, api.MaxList)
	both := most
	both.Choices = []api.Choice{{Path: "/a", Slaves: targets}, {Path: "/b", Slaves: none}}
	install("x", "/x", "/b", 0).answers(t, "a choice for none of 64 slaves", []api.Alt{most}, []api.Alt{both}, api.OK)
	install("x", "/x", "/a", 0, "t", "/t", "").answers(t, "a 65th slave", []api.Alt{most}, nil, api.EALT)
	put("x", "/x", api.Choice{Path: "/a", Slaves: targets}, slaves).answers(t, "64 slaves beside another one",
		[]api.Alt{{Name: "x", Link: "/x", Cur: "/a", Slaves: []api.Slave{{Name: "t", Link: "/t"}}, Choices: []api.Choice{{Path: "/a", Slaves: []string{""}}}}}, nil, api.EALT)
}

// P17.2

func TestRemove(t *testing.T) {
	v := vi()
	without := func(x api.Alt, i int) api.Alt {
		x.Choices = slices.Delete(slices.Clone(x.Choices), i, i+1)
		return x
	}
	for _, c := range []struct {
		p         string
		old, want api.Alt
	}{
		{"/a", v, without(v, 0)},
		{"/c", v, without(v, 2)},
		{"/b", v, cur(without(v, 1), "/a")},
		{"/a", manual(v, "/a"), without(v, 0)}, // /b is taken again
		{"/b", manual(v, "/b"), cur(without(v, 1), "/a")},
		{"/b", manual(v, "/a"), manual(without(v, 1), "/a")},
		{"/b", manual(v, "/c"), manual(without(v, 1), "/c")},
		{"/c", manual(v, "/b"), manual(without(v, 2), "/b")},
	} {
		remove("vi", c.p).answers(t, "Remove of "+c.p+" from "+show(c.old), alts.Put(given(), c.old), alts.Put(given(), c.want), api.OK)
	}
	remove("ed", "/a").answers(t, "the last one", given(), []api.Alt{vi()}, api.OK)
	remove("ed", "/a").answers(t, "the last one, taken by hand", []api.Alt{manual(ed(), "/a")}, nil, api.OK)
	for _, c := range [][2]string{{"ed", "/b"}, {"ed", ""}, {"ed", "/"}, {"ed", "/a/"}, {"ed", "a"}, {"none", "/a"}, {"", "/a"}, {"vi.1", "/a"}, {"vi", "/d"}, {"vi", "/a.1"}, {"VI", "/a"}} {
		remove(c[0], c[1]).answers(t, fmt.Sprint("Remove of ", c), given(), nil, api.ENOENT)
		remove(c[0], c[1]).answers(t, fmt.Sprint("Remove from none of ", c), nil, nil, api.ENOENT)
		set(c[0], c[1]).answers(t, fmt.Sprint("Set of ", c), given(), nil, api.ENOENT)
		set(c[0], c[1]).answers(t, fmt.Sprint("Set of none of ", c), nil, nil, api.ENOENT)
	}
}

func TestAll(t *testing.T) {
	all("vi").answers(t, "All", given(), []api.Alt{ed()}, api.OK)
	all("ed").answers(t, "All", given(), []api.Alt{vi()}, api.OK)
	all("ed").answers(t, "All of the last one", []api.Alt{manual(ed(), "/a")}, nil, api.OK)
	for _, name := range []string{"", "none", "vi.1", "e", "ed1"} {
		all(name).answers(t, "All of "+name, given(), nil, api.ENOENT)
		auto(name).answers(t, "Auto of "+name, given(), nil, api.ENOENT)
		all(name).answers(t, "All among none of "+name, nil, nil, api.ENOENT)
		auto(name).answers(t, "Auto among none of "+name, nil, nil, api.ENOENT)
	}
}

func TestSetAuto(t *testing.T) {
	v := vi()
	for _, p := range []string{"/a", "/b", "/c"} {
		for _, q := range []string{"/a", "/b", "/c"} {
			set("vi", p).answers(t, "Set of "+p, alts.Put(given(), manual(v, q)), alts.Put(given(), manual(v, p)), api.OK)
		}
		set("vi", p).answers(t, "Set of "+p, given(), alts.Put(given(), manual(v, p)), api.OK)
		auto("vi").answers(t, "Auto", alts.Put(given(), manual(v, p)), given(), api.OK)
	}
	auto("vi").answers(t, "Auto again", given(), given(), api.OK)
	set("ed", "/a").answers(t, "Set of the only one", given(), []api.Alt{manual(ed(), "/a"), v}, api.OK)
	auto("ed").answers(t, "Auto of the only one", []api.Alt{manual(ed(), "/a")}, []api.Alt{ed()}, api.OK)
}

// Of alternatives that may not be, the first one of a name is meant, and nothing
// else is put in order.
func TestOthersOfWrong(t *testing.T) {
	twice := vi()
	twice.Choices = append(twice.Choices, api.Choice{Path: "/b", Prio: 20})
	noChoice := api.Alt{Name: "vi", Cur: "/x"}
	one := api.Alt{Name: "vi", Cur: "/old", Choices: []api.Choice{{Path: "/q"}, {Path: "/q", Prio: 1}}}
	a, c := vi().Choices[0], vi().Choices[2]
	left := vi()
	left.Choices, left.Cur = []api.Choice{a, c}, "/a"
	for _, x := range []struct {
		what    string
		call    call
		l, want []api.Alt
	}{
		{"Remove of two", remove("vi", "/b"), []api.Alt{twice, ed()}, []api.Alt{left, ed()}},
		{"Remove of two of two", remove("vi", "/q"), []api.Alt{one, vi(), ed(), vi()}, []api.Alt{ed()}},
		{"Remove from the first", remove("vi", "/b"), []api.Alt{vi(), vi()}, []api.Alt{left, vi()}},
		{"Remove of the current one that was taken", remove("vi", "/a"), []api.Alt{manual(twice, "/a")},
			[]api.Alt{{Name: "vi", Link: "/vi", Cur: "/b", Slaves: twice.Slaves, Choices: twice.Choices[1:]}}},
		{"Remove with another current one", remove("vi", "/b"), []api.Alt{cur(vi(), "/none")}, []api.Alt{left}},
		{"Remove with another one taken", remove("vi", "/b"), []api.Alt{manual(vi(), "/none")}, []api.Alt{manual(left, "/none")}},
		{"All of two", all("vi"), []api.Alt{one, ed(), vi()}, []api.Alt{ed()}},
		{"Set of the first", set("vi", "/a"), []api.Alt{vi(), one}, []api.Alt{manual(vi(), "/a"), one}},
		{"Auto without choices", auto("vi"), []api.Alt{noChoice}, []api.Alt{noChoice}},
		{"Auto without choices, taken", auto("vi"), []api.Alt{manual(noChoice, "/y")}, []api.Alt{cur(noChoice, "/y")}},
		{"Auto of the first", auto("vi"), []api.Alt{cur(vi(), "/none"), one}, []api.Alt{vi(), one}},
	} {
		x.call.answers(t, x.what, x.l, x.want, api.OK)
	}
	remove("vi", "/a").answers(t, "Remove of what the second has", []api.Alt{one, vi()}, nil, api.ENOENT)
	set("vi", "/a").answers(t, "Set of what the second has", []api.Alt{one, vi()}, nil, api.ENOENT)
}

// P17.3

func TestTarget(t *testing.T) {
	v := vi()
	short := vi()
	short.Choices[0].Slaves = []string{"/a.1"}
	twice := vi()
	twice.Slaves = []api.Slave{{Name: "s", Link: "/1"}, {Name: "s", Link: "/2"}, {Name: "vi"}}
	twice.Choices = []api.Choice{{Path: "/b", Slaves: []string{"/first", "/second", "/own"}}, {Path: "/b", Slaves: []string{"/no", "/no"}}}
	for _, c := range []struct {
		x          api.Alt
		name, want string
	}{
		{v, "vi", "/b"},
		{v, "vi.1", ""},
		{v, "vi.3", "/b.3"},
		{manual(v, "/a"), "vi", "/a"},
		{manual(v, "/a"), "vi.1", "/a.1"},
		{manual(v, "/a"), "vi.3", "/a.3"},
		{manual(v, "/c"), "vi.1", "/c.1"},
		{manual(v, "/c"), "vi.3", ""},
		{v, "vi.2", ""},
		{v, "", ""},
		{v, "ed", ""},
		{ed(), "ed", "/a"},
		{ed(), "vi", ""},
		{manual(v, "/none"), "vi", "/none"},
		{manual(v, "/none"), "vi.1", ""},
		{manual(short, "/a"), "vi.1", "/a.1"},
		{manual(short, "/a"), "vi.3", ""},
		{twice, "s", "/first"},
		{twice, "vi", "/b"},
		{api.Alt{}, "", ""},
		{api.Alt{Cur: "/x"}, "", "/x"},
		{api.Alt{Cur: "/x"}, "s", ""},
	} {
		if got := choose.Target(c.x, c.name); got != c.want {
			t.Errorf("Target of %q: %q, want %q, of %s", c.name, got, c.want, show(c.x))
		}
	}
}

// P17.4 and P17.5

// model is an alternative, without an order.
type model struct {
	link    string
	manual  bool
	cur     string
	slaves  map[string]string
	choices map[string]part
}

type part struct {
	prio    int
	targets map[string]string
}

// best is the path of a model's best choice.
func (m model) best() string {
	best := ""
	for p, c := range m.choices {
		if best == "" || c.prio > m.choices[best].prio || c.prio == m.choices[best].prio && p < best {
			best = p
		}
	}
	return best
}

func (m model) alt(name string) api.Alt {
	x := api.Alt{Name: name, Link: m.link, Manual: m.manual, Cur: m.cur}
	for _, s := range slices.Sorted(maps.Keys(m.slaves)) {
		x.Slaves = append(x.Slaves, api.Slave{Name: s, Link: m.slaves[s]})
	}
	for _, p := range slices.Sorted(maps.Keys(m.choices)) {
		c := api.Choice{Path: p, Prio: m.choices[p].prio}
		for _, s := range x.Slaves {
			c.Slaves = append(c.Slaves, m.choices[p].targets[s.Name])
		}
		x.Choices = append(x.Choices, c)
	}
	return x
}

func (m model) clone() model {
	m.slaves, m.choices = maps.Clone(m.slaves), maps.Clone(m.choices)
	return m
}

// settle is a model behind a change.
func (m model) settle() model {
	if _, ok := m.choices[m.cur]; !ok {
		m.manual = false
	}
	if !m.manual {
		m.cur = m.best()
	}
	return m
}

// world is models by their names.
type world map[string]model

func (w world) list() []api.Alt {
	var out []api.Alt
	for _, name := range slices.Sorted(maps.Keys(w)) {
		out = append(out, w[name].alt(name))
	}
	return out
}

// unique tells whether names and links are those of one each.
func (w world) unique() bool {
	names, links := map[string]int{}, map[string]int{}
	for name, m := range w {
		names[name]++
		links[m.link]++
		for s, link := range m.slaves {
			names[s]++
			links[link]++
		}
	}
	for _, counts := range []map[string]int{names, links} {
		for _, n := range counts {
			if n > 1 {
				return false
			}
		}
	}
	return true
}

func (w world) install(name, link string, c api.Choice, slaves []api.Slave) (world, api.Errno) {
	own := world{name: {link: link, cur: c.Path, slaves: map[string]string{}, choices: map[string]part{}}}
	targets := map[string]string{}
	for i, s := range slaves {
		own[name].slaves[s.Name] = s.Link
		targets[s.Name] = c.Slaves[i]
	}
	own[name].choices[c.Path] = part{c.Prio, targets}
	if len(own[name].slaves) != len(slaves) || !own.unique() {
		return w, api.EARG
	}
	out := maps.Clone(w)
	m, ok := w[name]
	if !ok {
		m = own[name]
	}
	if m.link != link {
		return w, api.EALT
	}
	m = m.clone()
	for s, l := range own[name].slaves {
		if had, ok := m.slaves[s]; ok && had != l {
			return w, api.EALT
		}
		m.slaves[s] = l
	}
	m.choices[c.Path] = own[name].choices[c.Path]
	out[name] = m.settle()
	if !out.unique() {
		return w, api.EALT
	}
	return out, api.OK
}

func (w world) change(name, p string, f func(model) model) (world, api.Errno) {
	m, ok := w[name]
	if _, has := m.choices[p]; !ok || p != "" && !has {
		return w, api.ENOENT
	}
	out := maps.Clone(w)
	out[name] = f(m.clone()).settle()
	if len(out[name].choices) == 0 {
		delete(out, name)
	}
	return out, api.OK
}

// TestModel does random calls one after the other, and sees that each makes of
// alternatives that may be such ones, of which those taken by hand stay, and
// the others are with the best choice.
func TestModel(t *testing.T) {
	r := rand.New(rand.NewPCG(17, 1))
	pick := func(l ...string) string { return l[r.IntN(len(l))] }
	seen := map[string]int{}
	for range 150 {
		w := world{}
		for range 60 {
			name, p := pick("a", "b", "c"), pick("/p", "/q", "/r", "/s")
			link := pick("/"+name, "/"+name, "/"+name, "/"+name, "/a", "/s")
			l := w.list()
			var call call
			var next world
			var want api.Errno
			kind := max(4, r.IntN(9)) // the least are all Install
			switch kind {
			default:
				c := api.Choice{Path: p, Prio: r.IntN(4)}
				var slaves []api.Slave
				for range r.IntN(4) {
					s := name + pick("1", "2", "3", "4", "5")
					slaves = append(slaves, api.Slave{Name: s, Link: pick("/"+s, "/"+s, "/"+s, "/"+s, "/"+s, "/"+s, "/a1")})
					c.Slaves = append(c.Slaves, pick("", "/t1", "/t2"))
				}
				call = put(name, link, c, slaves)
				next, want = w.install(name, link, c, slaves)
			case 5:
				call = remove(name, p)
				next, want = w.change(name, p, func(m model) model { delete(m.choices, p); return m })
			case 6:
				call = set(name, p)
				next, want = w.change(name, p, func(m model) model { m.manual, m.cur = true, p; return m })
			case 7:
				call = auto(name)
				next, want = w.change(name, "", func(m model) model { m.manual = false; return m })
			case 8:
				call = all(name)
				next, want = w.change(name, "", func(m model) model { clear(m.choices); return m })
			}
			var out []api.Alt
			if want == api.OK {
				out = next.list()
			}
			call.answers(t, fmt.Sprint("call ", kind), l, out, want)
			if e := alts.Check(out); e != api.OK {
				t.Fatalf("can't be: %d %s", e, show(out...))
			}
			if t.Failed() {
				t.Fatalf("of %s", show(l...))
			}
			seen[fmt.Sprint(kind, want)]++
			w = next
		}
	}
	if len(seen) != 11 {
		t.Error(seen)
	}
}

func TestExample(t *testing.T) {
	var l []api.Alt
	for _, c := range []struct {
		call call
		want string
	}{
		{install("x", "/x", "/a", 5), "/a"},
		{install("x", "/x", "/b", 9), "/b"},
		{set("x", "/a"), "/a"},
		{remove("x", "/a"), "/b"},
	} {
		var e api.Errno
		if l, e = c.call(l); e != api.OK || len(l) != 1 || l[0].Cur != c.want || choose.Target(l[0], "x") != c.want {
			t.Errorf("%d, want %s: %s", e, c.want, show(l...))
		}
	}
}

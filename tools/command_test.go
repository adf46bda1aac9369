package tools_test

import (
	"fmt"
	"slices"
	"strings"
	"testing"

	"cellarer/admin"
	"cellarer/alter"
	"cellarer/api"
	"cellarer/choose"
	"cellarer/order"
	"cellarer/tools"
)

// P33.2

func set(name, p string) api.Line {
	return api.Line{Kind: api.LAct, Act: api.Act{Kind: api.CSet, Name: name, Path: p}}
}

func auto(name string) api.Line {
	return api.Line{Kind: api.LAct, Act: api.Act{Kind: api.CAuto, Name: name}}
}

func configure(name string) api.Line { return api.Line{Kind: api.LConfigure, Name: name} }

// trial is a call in a world that is settled, and more; the lines it is to do,
// and what each of them answers unless power goes off.
type trial struct {
	what, more, text string
	lines            []api.Line
	codes            []api.Errno
}

// selects are calls of Select with their texts.
func selects() []trial {
	ok, none, form := api.OK, api.ENOENT, api.EFORM
	return []trial{
		{"nothing", "", "", nil, nil},
		{"one by hand", "", "vi manual /opt/a\n", []api.Line{set("vi", "/opt/a")}, []api.Errno{ok}},
		{"the best by hand", "", "vi manual /opt/b\n", []api.Line{set("vi", "/opt/b")}, []api.Errno{ok}},
		{"the best, whichever is told", "", "ex auto /none\nvi auto /opt/a\n", []api.Line{auto("ex"), auto("vi")}, []api.Errno{ok, ok}},
		{"what is taken already", "", selections, []api.Line{auto("ed"), set("ex", "/opt/c"), auto("vi")}, []api.Errno{ok, ok, ok}},
		{"all others", "", "vi manual /opt/c\ned manual /opt/b\nex auto /opt/c\n", []api.Line{set("vi", "/opt/c"), set("ed", "/opt/b"), auto("ex")}, []api.Errno{ok, ok, ok}},
		{"one again and again", "", "vi manual /opt/c\nvi auto /opt/b\nvi manual /opt/a\n", []api.Line{set("vi", "/opt/c"), auto("vi"), set("vi", "/opt/a")}, []api.Errno{ok, ok, ok}},
		{"no such name", "", "none auto /opt/a\nvi manual /opt/a\nvi.1 manual /opt/a\n", []api.Line{auto("none"), set("vi", "/opt/a"), set("vi.1", "/opt/a")}, []api.Errno{none, ok, none}},
		{"no such choice", "", "vi manual /opt/none\ned manual /opt/c\nex manual /opt\nvi manual /opt/c\n",
			[]api.Line{set("vi", "/opt/none"), set("ed", "/opt/c"), set("ex", "/opt"), set("vi", "/opt/c")}, []api.Errno{none, none, none, ok}},
		{"what no command may name", "", "vi manual /\nvi manual /var/lib/dpkg/status\nvi.dpkg-new auto /opt/a\nvi auto /\nex auto /opt/c.dpkg-tmp\n",
			[]api.Line{set("vi", "/"), set("vi", "/var/lib/dpkg/status"), auto("vi.dpkg-new"), auto("vi"), auto("ex")}, []api.Errno{form, form, form, ok, ok}},
		{"no alternatives", "remove-all vi\nremove-all ex\nremove-all ed\n", selections, []api.Line{auto("ed"), set("ex", "/opt/c"), auto("vi")}, []api.Errno{none, none, none}},
		{"no room", "limits 1 0 0\n", "vi manual /opt/a\ned auto /opt/a\nex auto /opt/c\n", []api.Line{set("vi", "/opt/a"), auto("ed"), auto("ex")}, []api.Errno{api.ENOSPC, ok, api.ENOSPC}},
		{"no room for names", "limits 0 0 3\n", "vi manual /opt/a\nex auto /opt/c\n", []api.Line{set("vi", "/opt/a"), auto("ex")}, []api.Errno{api.ELONG, api.ELONG}},
	}
}

// pendings are calls of Pending. What leans on what fails is tried, and lacks it.
func pendings() []trial {
	order := []api.Line{configure("c"), configure("d"), configure("b"), configure("a")}
	const scripts = "package d 2\npostinst unoverride /none\nunpack d 2\n"
	ok, full, failed, lacks := api.OK, api.ENOSPC, api.ESCRIPT, api.EDEPEND
	return []trial{
		{"several that lean on each other", "", "", order, []api.Errno{ok, ok, ok, ok}},
		{"some that are done already", "configure d\nconfigure b\n", "", []api.Line{configure("c"), configure("a")}, []api.Errno{ok, ok}},
		{"none", "configure c\nconfigure d\nconfigure b\nconfigure a\n", "", nil, nil},
		{"a script that fails", scripts, "", order, []api.Errno{ok, failed, lacks, lacks}},
		{"a script that exits with another code", "package b 2\ndepends d\npostinst fire t await\nunpack b 2\ncodes 0 0 1\n", "", order, []api.Errno{ok, ok, failed, lacks}},
		{"a script that goes well", "package b 2\ndepends d\npostinst fire t await\nunpack b 2\ncodes 0 0 0 0 1\n", "", order, []api.Errno{ok, ok, ok, ok}},
		{"scripts that take codes one after the other", `package c 2
depends p
postinst fire t await
package d 2
postinst fire t await
package b 2
postinst fire t await
unpack b 2
unpack c 2
unpack d 2
codes 0 1 0 1
`, "", []api.Line{configure("b"), configure("c"), configure("a"), configure("d")}, []api.Errno{ok, failed, lacks, ok}},
		{"no room", "limits 1 0 0\n", "", order, []api.Errno{full, full, lacks, lacks}},
	}
}

// same holds a world to a twin of it.
func same(t *testing.T, what string, w, twin *admin.World) {
	t.Helper()
	if got, want := sight(w), sight(twin); got != want {
		t.Fatalf("%s: another world than by lines:\n%s\nwant\n%s", what, got, want)
	}
}

// each is what lines answer, one after the other, till power goes off.
func each(w *admin.World, lines []api.Line) []api.Errno {
	var out []api.Errno
	for _, x := range lines {
		out = append(out, w.Do(x).Code)
		if out[len(out)-1] == api.EOFF {
			break
		}
	}
	return out
}

// selectCodes is what Select answers; pendingCodes, what Pending does, whose
// names are those of lines.
func selectCodes(t *testing.T, what string, w *admin.World, c trial) []api.Errno {
	t.Helper()
	codes, e := tools.Select(w, c.text)
	if e != api.OK {
		t.Fatalf("%s: %d", what, e)
	}
	return codes
}

func pendingCodes(t *testing.T, what string, w *admin.World, c trial) []api.Errno {
	t.Helper()
	steps, e := tools.Pending(w)
	if e != api.OK {
		t.Fatalf("%s: %d", what, e)
	}
	var codes []api.Errno
	for i, x := range steps {
		if i >= len(c.lines) || x.Name != c.lines[i].Name {
			t.Fatalf("%s: %v, want names of %v", what, steps, c.lines)
		}
		codes = append(codes, x.Code)
	}
	return codes
}

func TestSelect(t *testing.T) {
	t.Parallel()
	for _, c := range selects() {
		c.holds(t, selectCodes)
	}
	// A second one is as good as the first one.
	w := world(t, settled)
	for _, c := range selects()[:6] {
		if got := selectCodes(t, c.what, w, c); !slices.Equal(got, c.codes) {
			t.Errorf("%s: %d, want %d", c.what, got, c.codes)
		}
	}
	selected(t, w, "ed manual /opt/b\nex auto /opt/c\nvi manual /opt/c\n")
	// Of one, something is in the way: all others are taken.
	w = world(t, settled)
	must(t, w.Disk().Do(api.Op{Kind: api.OMkdir, Path: "/etc/alternatives/ed.dpkg-tmp"}))
	codes, e := tools.Select(w, "ed manual /opt/b\nex auto /opt/c\nvi manual /opt/c\n")
	if e != api.OK || !slices.Equal(codes, []api.Errno{api.EISDIR, api.OK, api.OK}) {
		t.Errorf("with a directory in the way: %d %d", e, codes)
	}
	selected(t, w, "ed auto /opt/a\nex auto /opt/c\nvi manual /opt/c\n")
}

func TestPending(t *testing.T) {
	t.Parallel()
	for _, c := range pendings() {
		c.holds(t, pendingCodes)
	}
	steps, e := tools.Pending(admin.New())
	if e != api.OK || len(steps) > 0 {
		t.Errorf("a new world: %d %v", e, steps)
	}
	// What failed can be done again, and what leaned on it then.
	w := world(t, settled+"package d 2\npostinst fire t await\nunpack d 2\ncodes 0 1\n")
	for _, want := range [][]order.Step{
		{{Name: "c", Code: api.OK}, {Name: "d", Code: api.ESCRIPT}, {Name: "b", Code: api.EDEPEND}, {Name: "a", Code: api.EDEPEND}},
		{{Name: "d", Code: api.OK}, {Name: "b", Code: api.OK}, {Name: "a", Code: api.OK}},
		nil,
	} {
		if got, e := tools.Pending(w); e != api.OK || !slices.Equal(got, want) {
			t.Errorf("%d %v, want %v", e, got, want)
		}
	}
	if st := loads(t, w); len(order.Stuck(st.Records)) != 1 {
		t.Errorf("%v", st.Records)
	}
}

type codesOf func(t *testing.T, what string, w *admin.World, c trial) []api.Errno

// holds holds a call to its lines, one after the other, and to their codes.
func (c trial) holds(t *testing.T, codes codesOf) {
	t.Helper()
	w, twin := world(t, settled+c.more), world(t, settled+c.more)
	want := each(twin, c.lines)
	if got := codes(t, c.what, w, c); !slices.Equal(got, want) || !slices.Equal(got, c.codes) {
		t.Errorf("%s: %d, want %d and %d", c.what, got, want, c.codes)
	}
	same(t, c.what, w, twin)
}

// With the lock of another one, nothing is done, and each line tells that.
func TestLocked(t *testing.T) {
	t.Parallel()
	for i, l := range [][]trial{selects(), pendings()} {
		for _, c := range l {
			w := world(t, settled+c.more)
			all(t, w, "limits 0 0 0\n")
			write(t, w.Disk(), lockAt, "")
			before := sight(w)
			got := []codesOf{selectCodes, pendingCodes}[i](t, c.what, w, c)
			if len(got) != len(c.codes) {
				t.Errorf("%s: %d", c.what, got)
			}
			for i, e := range got {
				if e != api.EBUSY && c.codes[i] != api.EFORM {
					t.Errorf("%s: %d", c.what, got)
				}
			}
			if sight(w) != before {
				t.Errorf("%s: the world changed", c.what)
			}
		}
	}
}

// Power goes off behind each step: what is told ends there, the world has
// recovered, and of what follows nothing was begun.
func TestCrashes(t *testing.T) {
	t.Parallel()
	for i, l := range [][]trial{selects(), pendings()} {
		for _, c := range l {
			t.Run(c.what, func(t *testing.T) {
				t.Parallel()
				c.crashesEach(t, []codesOf{selectCodes, pendingCodes}[i])
			})
		}
	}
}

func (c trial) crashesEach(t *testing.T, codes codesOf) {
	t.Helper()
	w, behind := world(t, settled+c.more), 0
	for i, x := range c.lines {
		steps := -w.Disk().Steps()
		w.Do(x)
		for n := range steps + w.Disk().Steps() {
			for _, keep := range []int{0, 2, 5} {
				got := c.crashes(t, behind+n, keep, codes)
				if want := append(slices.Clone(c.codes[:i]), api.EOFF); c.codes[i] == api.OK && !slices.Equal(got, want) {
					t.Errorf("%s: behind step %d of line %d: %d, want %d", c.what, n, i, got, want)
				}
			}
		}
		behind += steps + w.Disk().Steps()
	}
	if got := c.crashes(t, behind, 0, codes); !slices.Equal(got, c.codes) {
		t.Errorf("%s: behind the last step: %d", c.what, got)
	}
}

// crashes lets power go off behind some steps, and again in what is done then.
func (c trial) crashes(t *testing.T, n, keep int, codes codesOf) []api.Errno {
	t.Helper()
	crash := fmt.Sprintf("crash %d %d %d\ncrash %d 1\n", n, keep, keep, n/2)
	what := c.what + " " + crash
	w, twin := world(t, settled+c.more+crash), world(t, settled+c.more+crash)
	want := each(twin, c.lines)
	got := codes(t, what, w, c)
	if !slices.Equal(got, want) {
		t.Fatalf("%s: %d, want %d", what, got, want)
	}
	same(t, what, w, twin)
	if !w.Disk().On() {
		t.Fatalf("%s: no power", what)
	}
	if slices.Contains(got, api.EOFF) {
		c.ended(t, what, w, len(got))
	}
	for range 2 {
		again, e := tools.Select(w, selections)
		if e != api.OK || !slices.Equal(again, each(twin, []api.Line{auto("ed"), set("ex", "/opt/c"), auto("vi")})) {
			t.Fatalf("%s: again: %d %d", what, e, again)
		}
		same(t, what, w, twin)
	}
	return got
}

// ended holds a world to having begun no line but the first n.
func (c trial) ended(t *testing.T, what string, w *admin.World, n int) {
	t.Helper()
	was, now := loads(t, world(t, settled+c.more)), loads(t, w)
	names := map[string]int{}
	for _, x := range c.lines[:n] {
		names[x.Name+x.Act.Name] = 1
	}
	for i, x := range was.Alts {
		if names[x.Name] == 0 && fmt.Sprint(x) != fmt.Sprint(now.Alts[i]) {
			t.Errorf("%s: %v, was %v", what, now.Alts[i], x)
		}
	}
	for i, x := range was.Records {
		if names[x.Name] == 0 && fmt.Sprint(x) != fmt.Sprint(now.Records[i]) {
			t.Errorf("%s: %v, was %v", what, now.Records[i], x)
		}
	}
}

// What is no text of selections changes nothing, however right it begins.
func TestSelectForm(t *testing.T) {
	t.Parallel()
	w := world(t, settled)
	before := sight(w)
	for _, s := range []string{
		"\n", " ", "vi", "vi\n", "vi manual\n", "vi manual /opt/a", "vi manual /opt/a \n", " vi manual /opt/a\n", "vi manual  /opt/a\n", "vi\tmanual\t/opt/a\n",
		"vi manual opt/a\n", "vi manual /opt/\n", "vi manual /opt/a /opt/b\n", "vi hand /opt/a\n", "vi Manual /opt/a\n", "VI manual /opt/a\n", "vi manual /opt/a\n\n", "vi manual /opt/a\r\n",
		"vi manual \n", "vi auto\n", "vi auto -\n", "manual /opt/a\n", "vi manual /opt/a\nvi\n", "vi manual /opt/a\nvi auto /opt/b", "vi auto /" + strings.Repeat("a", 200) + "\n", strings.Repeat("v", 61) + " auto /a\n",
		"vi manual /opt/ä\n", "# vi manual /opt/a\n", strings.Repeat("vi manual /opt/a\n", 65),
	} {
		codes, e := tools.Select(w, s)
		if e != api.EFORM || len(codes) > 0 {
			t.Errorf("%q: %d %d", s, e, codes)
		}
	}
	if sight(w) != before {
		t.Error("the world changed")
	}
	// As many as there may be.
	codes, e := tools.Select(w, strings.Repeat("vi manual /opt/a\n", 63)+"vi manual /opt/c\n")
	if e != api.OK || !slices.Equal(codes, make([]api.Errno, 64)) {
		t.Errorf("%d %d", e, codes)
	}
	selected(t, w, "ed auto /opt/a\nex manual /opt/c\nvi manual /opt/c\n")
}

// P33.3

// leads sees that links lead to what is taken.
func leads(t *testing.T, what string, w *admin.World) {
	t.Helper()
	for _, x := range loads(t, w).Alts {
		for _, s := range append([]api.Slave{{Name: x.Name, Link: x.Link}}, x.Slaves...) {
			if got, want := alter.Resolve(w.Disk(), s.Link), choose.Target(x, s.Name); got != want {
				t.Errorf("%s: %s leads to %q, want %q", what, s.Link, got, want)
			}
		}
	}
}

// back selects what was told of a world, and sees that all is as it was then.
func back(t *testing.T, what string, w *admin.World, text string, was []api.Alt) {
	t.Helper()
	codes, e := tools.Select(w, text)
	if e != api.OK || len(codes) != len(was) || slices.ContainsFunc(codes, func(e api.Errno) bool { return e != api.OK }) {
		t.Errorf("%s: %d %d", what, e, codes)
	}
	selected(t, w, text)
	if got := loads(t, w).Alts; fmt.Sprint(got) != fmt.Sprint(was) {
		t.Errorf("%s: %v, was %v", what, got, was)
	}
	leads(t, what, w)
}

// kinds are all texts for the alternatives of a settled world.
func kinds() []string {
	var out []string
	for _, ed := range []string{"ed auto /opt/a\n", "ed manual /opt/a\n", "ed manual /opt/b\n"} {
		for _, ex := range []string{"ex auto /opt/c\n", "ex manual /opt/c\n"} {
			for _, vi := range []string{"vi auto /opt/b\n", "vi manual /opt/a\n", "vi manual /opt/b\n", "vi manual /opt/c\n"} {
				out = append(out, ed+ex+vi)
			}
		}
	}
	return out
}

func TestBack(t *testing.T) {
	t.Parallel()
	for _, first := range kinds() {
		w := world(t, settled)
		if _, e := tools.Select(w, first); e != api.OK {
			t.Fatal(e)
		}
		selected(t, w, first)
		was := loads(t, w).Alts
		leads(t, first, w)
		for _, other := range kinds() {
			codes, e := tools.Select(w, other)
			if e != api.OK || !slices.Equal(codes, make([]api.Errno, 3)) {
				t.Errorf("%q: %d %d", other, e, codes)
			}
			selected(t, w, other)
			back(t, first+other, w, first, was)
		}
		// What others there were may differ in number and in order, fail, or be cut short.
		all(t, w, "set vi /opt/a\nauto ed\nset vi /opt/c\n")
		back(t, first, w, first, was)
		tools.Select(w, "vi manual /none\nvi auto /opt/b\nnone auto /a\nex auto /\n")
		back(t, first, w, first, was)
		for n := range 12 {
			all(t, w, fmt.Sprintf("crash %d %d\n", n, n%4))
			if codes, e := tools.Select(w, "vi manual /opt/a\nvi auto /opt/a\ned manual /opt/b\n"); e != api.OK || !slices.Contains(codes, api.EOFF) {
				t.Errorf("%d %d", e, codes)
			}
			back(t, first, w, first, was)
		}
	}
	// None of none.
	w := admin.New()
	back(t, "none", w, "", nil)
	// As many as there may be.
	w, text := many(t, 64)
	was := loads(t, w).Alts
	codes, e := tools.Select(w, strings.ReplaceAll(text, " /a", " /b"))
	if e != api.OK || !slices.Equal(codes, make([]api.Errno, 64)) {
		t.Errorf("%d %d", e, codes)
	}
	selected(t, w, strings.ReplaceAll(text, "manual /a", "manual /b"))
	back(t, "many", w, text, was)
}

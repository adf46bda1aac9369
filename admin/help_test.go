package admin_test

import (
	"fmt"
	"reflect"
	"slices"
	"strings"
	"testing"

	"cellarer/admin"
	"cellarer/alts"
	"cellarer/api"
	"cellarer/choose"
	"cellarer/disk"
	"cellarer/divs"
	"cellarer/engine"
	"cellarer/fire"
	"cellarer/lists"
	"cellarer/path"
	"cellarer/repair"
	"cellarer/run"
	"cellarer/script"
	"cellarer/status"
	"cellarer/store"
)

const (
	home   = "/var/lib/dpkg/"
	lockAt = home + "lock"
)

// databases are the files that each state has.
var databases = []string{"status", "diversions", "statoverride", "triggers/File", "triggers/Unincorp"}

func must(t *testing.T, e api.Errno) {
	t.Helper()
	if e != api.OK {
		t.Fatal(e)
	}
}

// show is all of something as a text, in which lists that are nil and empty are
// alike; whole is that with what is behind the ends of lists.
func show(x any) string { return told(x, false) }

func whole(x any) string { return told(x, true) }

func told(x any, whole bool) string {
	var out strings.Builder
	var tell func(reflect.Value)
	tell = func(v reflect.Value) {
		switch v.Kind() {
		case reflect.Struct:
			for i := range v.NumField() {
				tell(v.Field(i))
			}
		case reflect.Slice:
			n := v.Len()
			if whole {
				v = v.Slice(0, v.Cap())
			}
			fmt.Fprintf(&out, "%d[", n)
			for i := range v.Len() {
				tell(v.Index(i))
			}
			out.WriteString("]")
		case reflect.Array:
			for i := range v.Len() {
				tell(v.Index(i))
			}
		default:
			fmt.Fprintf(&out, "%#v ", v)
		}
	}
	tell(reflect.ValueOf(x))
	return out.String()
}

func same(a, b any) bool { return show(a) == show(b) }

// spared is a line of which each list has something behind its end, which nobody
// may touch.
func spared(x api.Line) api.Line {
	x.Nums = append(slices.Clip(x.Nums), 77)[:len(x.Nums)]
	x.Names = append(slices.Clip(x.Names), "spare")[:len(x.Names)]
	x.Conflicts = append(slices.Clip(x.Conflicts), api.Rel{Name: "spare"})[:len(x.Conflicts)]
	x.Depends = append(slices.Clip(x.Depends), []api.Rel{{Name: "spare"}})[:len(x.Depends)]
	for i, group := range x.Depends {
		x.Depends[i] = append(slices.Clip(group), api.Rel{Name: "spare"})[:len(group)]
	}
	x.Act.Slaves = append(slices.Clip(x.Act.Slaves), api.Slave{Name: "spare"})[:len(x.Act.Slaves)]
	x.Act.Paths = append(slices.Clip(x.Act.Paths), "spare")[:len(x.Act.Paths)]
	return x
}

// look is all that a disk tells.
func look(d *disk.Disk) string {
	return fmt.Sprint(d.Image(), d.Kept(), d.Dirty(), d.Steps(), d.Pending(), d.On())
}

// sight is all that a world tells.
func sight(w *admin.World) string {
	st, e := w.State()
	return look(w.Disk()) + show(w.Pool()) + show(st) + fmt.Sprint(e)
}

func loads(t *testing.T, w *admin.World) api.State {
	t.Helper()
	st, e := w.State()
	must(t, e)
	return st
}

// files is what is there beside databases, by its path.
func files(d *disk.Disk) map[string]api.Entry {
	out := map[string]api.Entry{}
	for _, x := range d.Image() {
		if !strings.HasPrefix(x.Path, home) {
			x.Node = 0
			out[x.Path] = x
		}
	}
	return out
}

// line is that of a text.
func line(t *testing.T, s string) api.Line {
	t.Helper()
	x, ok := script.Line(s)
	if !ok {
		t.Fatalf("no line: %q", s)
	}
	return x
}

// world is one in which the lines of a text were done, each without an error.
func world(t *testing.T, text string) *admin.World {
	t.Helper()
	w := admin.New()
	all(t, w, text)
	return w
}

// all does the lines of a text in a world, each without an error.
func all(t *testing.T, w *admin.World, text string) {
	t.Helper()
	for s := range strings.Lines(text) {
		s = strings.TrimSuffix(s, "\n")
		if got := w.Do(line(t, s)); got.Code != api.OK {
			t.Fatalf("%s: %d", s, got.Code)
		}
	}
}

// does holds a world to what it is to answer.
func does(t *testing.T, w *admin.World, s string, want api.Errno, text string) {
	t.Helper()
	if got := w.Do(line(t, s)); got != (api.Answer{Code: want, Text: text}) {
		t.Errorf("%s: %d %q, want %d %q", s, got.Code, got.Text, want, text)
	}
}

// write writes into a file of a disk, which may be made by that.
func write(t *testing.T, d *disk.Disk, p, text string) {
	t.Helper()
	d.Do(api.Op{Kind: api.OCreate, Path: p, Meta: api.Meta{Mode: 0o644}})
	must(t, d.Do(api.Op{Kind: api.OWrite, Path: p, Text: text}))
	must(t, d.Sync(p))
}

// model is what a world is to be.
type model struct {
	d     *disk.Disk
	pool  []api.Package
	codes []int
	next  []api.Line // the crashes that are to come
	armed bool
}

func newModel() *model {
	m := &model{d: disk.New(api.Limits{})}
	store.Format(m.d)
	return m
}

func code(e api.Errno) api.Answer { return api.Answer{Code: e} }

func (m *model) do(x api.Line) api.Answer {
	switch x.Kind {
	case api.LCodes:
		m.codes = x.Nums
		return code(api.OK)
	case api.LLimits:
		m.d.Bound(x.Limits)
		return code(api.OK)
	case api.LCrash:
		if len(m.next) == 8 {
			return code(api.EFULL)
		}
		m.next = append(m.next, x)
		return code(api.OK)
	case api.LPackage:
		if len(m.pool) == 20 {
			return code(api.EFULL)
		}
		m.pool = append(m.pool, api.Package{Name: x.Name, Version: x.Text})
		return code(api.OK)
	case api.LDepends, api.LConflicts, api.LReplaces, api.LFile, api.LInterest, api.LScript:
		if len(m.pool) == 0 {
			return code(api.ENOENT)
		}
		return code(ofPackage(&m.pool[len(m.pool)-1], x))
	}
	if len(m.next) > 0 && !m.armed {
		m.d.Fuse(m.next[0].N)
		m.armed = true
	}
	st, e := store.Load(m.d)
	if x.Kind == api.LTrue || x.Kind == api.LShow || x.Kind == api.LOwner || x.Kind == api.LQuery {
		if e != api.OK {
			return code(e)
		}
		return asked(st, x)
	}
	got := code(e)
	if e == api.OK {
		got = m.command(st, x)
	}
	for !m.d.On() {
		first := api.Line{}
		if len(m.next) > 0 {
			first, m.next = m.next[0], m.next[1:]
		}
		m.d.Crash(first.Keep, first.Nums)
		m.armed = len(m.next) > 0
		if m.armed {
			m.d.Fuse(m.next[0].N)
		}
		repair.Repair(m.d)
	}
	return got
}

func ofPackage(p *api.Package, x api.Line) api.Errno {
	switch x.Kind {
	case api.LDepends:
		p.Depends = x.Depends
	case api.LConflicts:
		p.Conflicts = x.Conflicts
	case api.LReplaces:
		p.Replaces = x.Names
	case api.LFile:
		for _, f := range p.Files {
			if f.Path == x.File.Path {
				return api.EEXIST
			}
		}
		if len(p.Files) == 32 {
			return api.EFULL
		}
		p.Files = append(p.Files, x.File)
		slices.SortFunc(p.Files, func(f, g api.File) int { return strings.Compare(f.Path, g.Path) })
	case api.LInterest:
		if len(p.Interests) == 8 {
			return api.EFULL
		}
		p.Interests = append(p.Interests, api.Interest{Trigger: x.Name, Noawait: x.Flag})
	case api.LScript:
		if len(p.Scripts[x.N]) == 6 {
			return api.EFULL
		}
		p.Scripts[x.N] = append(p.Scripts[x.N], x.Act)
	}
	return api.OK
}

// asked is what databases answer.
func asked(st api.State, x api.Line) api.Answer {
	switch x.Kind {
	case api.LTrue:
		if !path.Right(x.Text) {
			return code(api.EARG)
		}
		return api.Answer{Text: divs.True(st.Diverts, x.Text, x.Name) + "\n"}
	case api.LShow:
		for _, r := range st.Records {
			if r.Name == x.Name {
				text, e := status.Print([]api.Record{r})
				return api.Answer{Code: e, Text: text}
			}
		}
	case api.LOwner:
		if names := lists.Owners(st.Lists, x.Text); len(names) > 0 {
			return api.Answer{Text: strings.Join(names, "\n") + "\n"}
		}
	case api.LQuery:
		for _, a := range st.Alts {
			if a.Name == x.Name {
				text, e := alts.Print(a)
				text += choose.Target(a, a.Name) + "\n"
				for _, s := range a.Slaves {
					text += choose.Target(a, s.Name) + "\n"
				}
				return api.Answer{Code: e, Text: text}
			}
		}
	}
	return code(api.ENOENT)
}

// command is what an action does, and answers.
func (m *model) command(st api.State, x api.Line) api.Answer {
	if e := store.Lock(m.d); e != api.OK {
		return code(e)
	}
	var e api.Errno
	text := ""
	switch x.Kind {
	case api.LAct:
		_, e = run.Do(m.d, st, x.Act, "")
	case api.LUnpack:
		e = api.ENOENT
		for _, p := range m.pool {
			if p.Name == x.Name && p.Version == x.Text {
				_, m.codes, e = engine.Unpack(m.d, st, p, m.codes)
				break
			}
		}
	case api.LConfigure:
		_, m.codes, e = engine.Configure(m.d, st, x.Name, m.pool, m.codes)
	case api.LRemove:
		_, m.codes, e = engine.Remove(m.d, st, x.Name, m.pool, m.codes)
	case api.LPurge:
		_, m.codes, e = engine.Purge(m.d, st, x.Name, m.pool, m.codes)
	case api.LProcess:
		var r fire.Result
		_, m.codes, r, e = fire.Process(m.d, st, m.pool, m.codes)
		for _, name := range r.Runs {
			text += "run " + name + "\n"
		}
		for _, name := range r.Cycles {
			text += "cycle " + name + "\n"
		}
		for _, name := range r.Failed {
			text += "failed " + name + "\n"
		}
	}
	if f := store.Unlock(m.d); e == api.OK {
		e = f
	}
	if e != api.OK {
		return code(e)
	}
	return api.Answer{Text: text}
}

// pair is a world, and what it is to be.
type pair struct {
	w *admin.World
	m *model
}

func newPair() pair { return pair{admin.New(), newModel()} }

// ready is a pair in which the lines of a text were done.
func ready(text string) pair {
	p := pair{admin.New(), readyModel(text)}
	for _, x := range script.Parse(text) {
		p.w.Do(x)
	}
	return p
}

func readyModel(text string) *model {
	m := newModel()
	for _, x := range script.Parse(text) {
		m.do(x)
	}
	return m
}

// do does a line in both, and holds the one to the other.
func (p pair) do(t *testing.T, what string, x api.Line) api.Answer {
	t.Helper()
	given := spared(x)
	before := whole(given)
	got, want := p.w.Do(given), p.m.do(x)
	if whole(given) != before {
		t.Fatalf("%s: %s was changed", what, script.Text(x))
	}
	if got != want || look(p.w.Disk()) != look(p.m.d) || !same(p.w.Pool(), p.m.pool) {
		t.Fatalf("%s: %s: %d %q, want %d %q\n%s\nwant\n%s\n%v\nwant\n%v", what, script.Text(x), got.Code, got.Text, want.Code, want.Text, look(p.w.Disk()), look(p.m.d), p.w.Pool(), p.m.pool)
	}
	return got
}

// all does the lines of a text; it hands on the last answer.
func (p pair) all(t *testing.T, what, text string) api.Answer {
	t.Helper()
	var last api.Answer
	for _, x := range script.Parse(text) {
		last = p.do(t, what, x)
	}
	return last
}

// load is what the databases tell.
func (m *model) load() api.State {
	st, _ := store.Load(m.d)
	return st
}

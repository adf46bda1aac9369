package engine_test

import (
	"fmt"
	"reflect"
	"strings"
	"testing"

	"cellarer/api"
	"cellarer/bits"
	"cellarer/disk"
	"cellarer/divs"
	"cellarer/lists"
	"cellarer/place"
	"cellarer/run"
	"cellarer/store"
)

const home = "/var/lib/dpkg"

var (
	oldMeta = api.Meta{Mode: 0o640, Uid: 1, Gid: 2}           // of what is there
	newMeta = api.Meta{Mode: 0o4755, Uid: 3, Gid: 4}          // of what comes
	own     = api.Meta{Mode: 0o400, Uid: api.MaxId, Gid: 777} // of what is overridden
)

// dir, file, conffile and link are what is there for a test, and also what comes
// with a package.
func dir(p string) api.File { return api.File{Path: p, Kind: api.KDir, Meta: newMeta} }

func file(p, text string) api.File {
	return api.File{Path: p, Kind: api.KFile, Meta: newMeta, Text: text}
}

func conffile(p, text string) api.File {
	f := file(p, text)
	f.Conf = true
	return f
}

func link(p, text string) api.File {
	return api.File{Path: p, Kind: api.KLink, Meta: newMeta, Text: text}
}

// confs is conffiles, by their paths, of which all came with a text.
func confs(text string, paths ...string) []api.Conf {
	var out []api.Conf
	for _, p := range paths {
		out = append(out, api.Conf{Path: p, Sum: bits.Sum(text)})
	}
	return out
}

func rels(names ...string) []api.Rel {
	var out []api.Rel
	for _, s := range names {
		out = append(out, api.Rel{Name: s})
	}
	return out
}

func acts(l ...api.Act) []api.Act { return l }

func fire(trigger string) api.Act { return api.Act{Kind: api.CFire, Name: trigger} }

func fails() api.Act { return api.Act{Kind: api.CUnover, Path: "/none"} }

func in(trigger, pkg string) api.Interest { return api.Interest{Trigger: trigger, Package: pkg} }

func by(trigger string, l ...string) api.Fired { return api.Fired{Trigger: trigger, By: l} }

func listOf(name string, paths ...string) api.List { return api.List{Name: name, Paths: paths} }

func must(t *testing.T, e api.Errno) {
	t.Helper()
	if e != api.OK {
		t.Fatal(e)
	}
}

// world is what is on a disk: databases, and files.
type world struct {
	st api.State
	on []api.File
}

// disk is a disk with a world, of which nothing is pending or dirty.
func (w world) disk(t *testing.T) *disk.Disk {
	t.Helper()
	d := disk.New(api.Limits{})
	must(t, store.Format(d))
	for _, f := range w.on {
		put(t, d, f)
	}
	must(t, d.Sync("/"))
	must(t, store.Records(d, w.st.Records))
	must(t, store.Diverts(d, w.st.Diverts))
	must(t, store.Overs(d, w.st.Overs))
	must(t, store.Interests(d, w.st.Interests))
	must(t, store.Fired(d, w.st.Fired))
	for _, x := range w.st.Lists {
		must(t, store.List(d, x))
	}
	return d
}

// put puts a file on a disk, also in the place of another one.
func put(t *testing.T, d *disk.Disk, f api.File) {
	t.Helper()
	d.Do(api.Op{Kind: api.OUnlink, Path: f.Path})
	switch f.Kind {
	case api.KDir:
		d.Do(api.Op{Kind: api.OMkdir, Path: f.Path, Meta: oldMeta})
	case api.KLink:
		must(t, d.Do(api.Op{Kind: api.OSymlink, Path: f.Path, Text: f.Text, Meta: oldMeta}))
	default:
		must(t, d.Do(api.Op{Kind: api.OCreate, Path: f.Path, Meta: oldMeta}))
		must(t, d.Do(api.Op{Kind: api.OWrite, Path: f.Path, Text: f.Text}))
		must(t, d.Sync(f.Path))
	}
}

// look is all that a disk tells.
func look(d *disk.Disk) string {
	return fmt.Sprint(d.Image(), d.Kept(), d.Dirty(), d.Steps(), d.Pending(), d.On())
}

func loads(t *testing.T, d *disk.Disk) api.State {
	t.Helper()
	st, e := store.Load(d)
	must(t, e)
	return st
}

// entries is what is there beside databases, by its path.
func entries(d *disk.Disk) map[string]api.Entry {
	out := map[string]api.Entry{}
	for _, x := range d.Image() {
		if !strings.HasPrefix(x.Path, home) {
			x.Node = 0
			out[x.Path] = x
		}
	}
	return out
}

// without are disks on which nothing can be done, and the error that says so.
func without(t *testing.T, w world) map[*disk.Disk]api.Errno {
	off := w.disk(t)
	off.Fuse(0)
	off.Sync("/")
	return map[*disk.Disk]api.Errno{nil: api.ENIL, {}: api.ENIL, off: api.EOFF}
}

// spared is a copy of which each list has something behind its end, which nobody
// may touch.
func spared[T any](x T) T {
	out := reflect.New(reflect.TypeOf(x)).Elem()
	copied(out, reflect.ValueOf(x))
	return out.Interface().(T)
}

func copied(to, from reflect.Value) {
	switch from.Kind() {
	case reflect.Struct:
		for i := range from.NumField() {
			copied(to.Field(i), from.Field(i))
		}
	case reflect.Array:
		for i := range from.Len() {
			copied(to.Index(i), from.Index(i))
		}
	case reflect.Slice:
		l := reflect.MakeSlice(from.Type(), from.Len()+2, from.Len()+2)
		for i := range from.Len() {
			copied(l.Index(i), from.Index(i))
		}
		if l.Index(from.Len()).Kind() == reflect.String {
			l.Index(from.Len()).SetString("spare")
		}
		to.Set(l.Slice(0, from.Len()))
	default:
		to.Set(from)
	}
}

// show is all of something as a text, in which lists that are nil and empty are
// alike; whole is that with what is behind the ends of lists.
func show(x any) string { return told(x, false) }

func whole(x any) string { return told(x, true) }

func told(x any, whole bool) string {
	var out strings.Builder
	var tell func(reflect.Value)
	tell = func(v reflect.Value) {
		switch v.Kind() {
		case reflect.Interface:
			tell(v.Elem())
		case reflect.Struct:
			for i := range v.NumField() {
				tell(v.Field(i))
			}
		case reflect.Slice:
			n := v.Len()
			if whole {
				v = v.Slice(0, v.Cap())
			}
			fmt.Fprintf(&out, "%d[", n)
			for i := range v.Len() {
				tell(v.Index(i))
			}
			out.WriteString("]")
		case reflect.Array:
			for i := range v.Len() {
				tell(v.Index(i))
			}
		default:
			fmt.Fprintf(&out, "%#v ", v)
		}
	}
	tell(reflect.ValueOf(x))
	return out.String()
}

func same(a, b any) bool { return show(a) == show(b) }

// twin is a disk on which is done, step by step, what a call is to do; and the
// state and the codes that are reached.
type twin struct {
	d     *disk.Disk
	st    api.State
	codes []int
}

// step is what a call is to do; it may have an error, which ends the call.
type step func(w *twin) api.Errno

// records, and those that follow, are the steps in which a database is replaced.
func records(l ...api.Record) step {
	return func(w *twin) api.Errno {
		e := store.Records(w.d, l)
		if e == api.OK {
			w.st.Records = l
		}
		return e
	}
}

func interests(l ...api.Interest) step {
	return func(w *twin) api.Errno {
		e := store.Interests(w.d, l)
		if e == api.OK {
			w.st.Interests = l
		}
		return e
	}
}

func fired(l ...api.Fired) step {
	return func(w *twin) api.Errno {
		e := store.Fired(w.d, l)
		if e == api.OK {
			w.st.Fired = l
		}
		return e
	}
}

func list(name string, paths ...string) step {
	return func(w *twin) api.Errno {
		x := api.List{Name: name, Paths: paths}
		e := store.List(w.d, x)
		if e == api.OK {
			w.st.Lists = lists.Put(w.st.Lists, x)
		}
		return e
	}
}

func unlist(name string) step {
	return func(w *twin) api.Errno {
		e := store.Unlist(w.d, name)
		if e == api.OK {
			w.st.Lists = lists.Drop(w.st.Lists, name)
		}
		return e
	}
}

// script is the step in which a script is done.
func script(name string, l ...api.Act) step {
	return func(w *twin) api.Errno {
		var e api.Errno
		w.st, w.codes, e = run.Script(w.d, w.st, l, name, w.codes)
		return e
	}
}

// unlink, rmdir and sync are steps of the disk.
func unlink(p string) step {
	return func(w *twin) api.Errno { return w.d.Do(api.Op{Kind: api.OUnlink, Path: p}) }
}

func rmdir(p string) step {
	return func(w *twin) api.Errno { return w.d.Do(api.Op{Kind: api.ORmdir, Path: p}) }
}

func sync(w *twin) api.Errno { return w.d.Sync("/") }

func fail(e api.Errno) step { return func(*twin) api.Errno { return e } }

// stored is what is stored beside the files of a package, and how that is
// taken back.
type stored struct{ do, undo step }

// plot is what a call is to do: its first steps; the items that it puts in
// their places, and what it stores then, behind an error of which all of that is
// taken back, and the records put back too; and its last steps.
type plot struct {
	first []step
	items []place.Item
	store []stored
	back  step
	last  []step
}

func steps(l ...step) plot { return plot{first: l} }

// play does what a call is to do.
func (w *twin) play(p plot) api.Errno {
	for _, s := range p.first {
		if e := s(w); e != api.OK {
			return e
		}
	}
	if p.back == nil {
		return api.OK
	}
	if e := w.install(p); e != api.OK {
		return e
	}
	if e := place.Commit(w.d, p.items); e != api.OK {
		return e
	}
	for _, s := range p.last {
		if e := s(w); e != api.OK {
			return e
		}
	}
	return api.OK
}

func (w *twin) install(p plot) api.Errno {
	e := place.Stage(w.d, p.items)
	if e == api.OK {
		e = place.Swap(w.d, p.items)
	}
	done := 0
	for done < len(p.store) && e == api.OK {
		if e = p.store[done].do(w); e == api.OK {
			done++
		}
	}
	if e == api.OK || e == api.EOFF {
		return e
	}
	// What is taken back is no state that is reached.
	back := &twin{d: w.d}
	place.Undo(w.d, p.items)
	for _, s := range p.store[:done] {
		s.undo(back)
	}
	p.back(back)
	return e
}

// answer is what a call answers.
type answer struct {
	st    api.State
	codes []int
	e     api.Errno
}

// end is what a call answers when this was done, and this is its error.
func (w *twin) end(e api.Errno) answer {
	if e != api.OK && e != api.EOFF {
		if st, f := store.Load(w.d); f == api.OK {
			w.st = st
		}
	}
	return answer{w.st, w.codes, e}
}

// call is Unpack, or one of the others, with its package or its pool.
type call func(d *disk.Disk, st api.State, codes []int) answer

// trial is a call in a world, and how it goes.
type trial struct {
	what string
	w    world
	do   call
	in   []int // codes
	plot plot
	e    api.Errno
}

// once holds a call to what is done on a twin disk, of which both are made
// ready in the same way; it hands on its disk too.
func (x trial) once(t *testing.T, how string, ready func(d *disk.Disk)) (answer, *disk.Disk) {
	t.Helper()
	w := &twin{x.w.disk(t), x.w.st, x.in}
	ready(w.d)
	want := w.end(w.play(x.plot))
	d, st, codes := x.w.disk(t), spared(x.w.st), spared(x.in)
	ready(d)
	before := whole([]any{st, codes})
	got := x.do(d, st, codes)
	if !same(got, want) || look(d) != look(w.d) {
		t.Fatalf("%s %s:\n%s\nwant\n%s\n\n%s\nwant\n%s", x.what, how, show(got), show(want), look(d), look(w.d))
	}
	if whole([]any{st, codes}) != before {
		t.Errorf("%s %s changed what it was given", x.what, how)
	}
	return got, d
}

// hold holds a call to what it is to do, wherever power goes off, and whichever
// limit strikes; and to its error where nothing of that is so.
func (x trial) hold(t *testing.T) {
	t.Helper()
	got, _ := x.once(t, "", func(*disk.Disk) {})
	if got.e != x.e {
		t.Errorf("%s: %d, want %d", x.what, got.e, x.e)
	}
	for n := 0; ; n++ {
		if _, d := x.once(t, fmt.Sprintf("with %d steps", n), func(d *disk.Disk) { d.Fuse(n) }); d.On() {
			break
		}
	}
	for _, limits := range bounds(x.w.disk(t)) {
		x.once(t, fmt.Sprintf("with %v", limits), func(d *disk.Disk) { d.Bound(limits) })
	}
}

// holdBoth holds a call to what it is to do where a limit strikes, and power goes
// off ahead of that or behind it.
func (x trial) holdBoth(t *testing.T) {
	t.Helper()
	struck := map[string]int{}
	for _, limits := range bounds(x.w.disk(t)) {
		got, d := x.once(t, fmt.Sprintf("with %v", limits), func(d *disk.Disk) { d.Bound(limits) })
		// Limits that strike at one step do alike.
		at := fmt.Sprint(got.e, d.Steps())
		if struck[at]++; got.e == x.e || struck[at] > 1 {
			continue
		}
		for n := 0; ; n++ {
			if _, d := x.once(t, fmt.Sprintf("with %v and %d steps", limits, n), func(d *disk.Disk) {
				d.Bound(limits)
				d.Fuse(n)
			}); d.On() {
				break
			}
		}
	}
	if len(struck) < 4 {
		t.Errorf("%s: limits strike at %v", x.what, struck)
	}
}

// bounds are limits of all kinds that a disk just keeps, or may not keep soon.
func bounds(d *disk.Disk) []api.Limits {
	size, files := 0, len(d.Image())
	for _, x := range d.Image() {
		size += len(x.Text)
	}
	var out []api.Limits
	for n := range 12 {
		out = append(out, api.Limits{Bytes: size + n*n*6}, api.Limits{Name: 2 * n}, api.Limits{Files: files + n})
	}
	return out
}

func holdAll(t *testing.T, l []trial) {
	t.Helper()
	for _, x := range l {
		x.hold(t)
	}
}

// whereIs is where a package's file is to be.
func whereIs(st api.State, f api.File, name string) string {
	if f.Kind == api.KDir {
		return f.Path
	}
	return divs.True(st.Diverts, f.Path, name)
}

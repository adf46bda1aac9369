package store_test

import (
	"fmt"
	"reflect"
	"slices"
	"strings"
	"testing"

	"cellarer/alts"
	"cellarer/api"
	"cellarer/disk"
	"cellarer/divs"
	"cellarer/lists"
	"cellarer/overs"
	"cellarer/status"
	"cellarer/store"
	"cellarer/trigs"
)

const (
	home   = "/var/lib/dpkg/"
	newAt  = home + "updates/new"
	lockAt = home + "lock"
)

// files are the five that each have a database.
var files = []string{home + "status", home + "diversions", home + "statoverride", home + "triggers/File", home + "triggers/Unincorp"}

// full is a state that has something of everything.
func full() api.State {
	return api.State{
		Records:   []api.Record{{Name: "a", Version: "1", State: api.SInstalled}, {Name: "b", Version: "2-1", State: api.SPending, Pending: []string{"/t"}}},
		Diverts:   []api.Divert{{Path: "/a", To: "/a.distrib"}, {Path: "/b", To: "/c", By: "x"}},
		Overs:     []api.Over{{Path: "/a", Meta: api.Meta{Mode: 0o4755, Gid: 5}}},
		Alts:      []api.Alt{alt("ed"), alt("vi")},
		Interests: []api.Interest{{Trigger: "/t", Package: "b"}, {Trigger: "t", Package: "a", Noawait: true}},
		Fired:     []api.Fired{{Trigger: "/t", By: []string{"a", "b"}}, {Trigger: "t"}},
		Lists:     []api.List{{Name: "a"}, {Name: "a+", Paths: []string{"/", "/a"}}, {Name: "b", Paths: []string{"/b"}}},
	}
}

func alt(name string) api.Alt {
	return api.Alt{Name: name, Link: "/" + name, Cur: "/bin/" + name, Choices: []api.Choice{{Path: "/bin/" + name, Prio: 5}}}
}

// other is a state of which each database differs from full's.
func other() api.State {
	return api.State{
		Records:   []api.Record{{Name: "c", Version: "1:3", State: api.SUnpacked}},
		Diverts:   []api.Divert{{Path: "/x", To: "/y"}},
		Overs:     []api.Over{{Path: "/x"}},
		Interests: []api.Interest{{Trigger: "x", Package: "y"}},
		Fired:     []api.Fired{{Trigger: "/x"}},
	}
}

// same takes lists that are nil and empty as equal.
func same(a, b api.State) bool { return fmt.Sprint(a) == fmt.Sprint(b) }

func must(t *testing.T, e api.Errno) {
	t.Helper()
	if e != api.OK {
		t.Fatal(e)
	}
}

// formatted is a disk with empty databases.
func formatted(t *testing.T) *disk.Disk {
	t.Helper()
	d := disk.New(api.Limits{})
	must(t, store.Format(d))
	return d
}

// put puts a state on a disk.
func put(t *testing.T, d *disk.Disk, st api.State) {
	t.Helper()
	must(t, store.Records(d, st.Records))
	must(t, store.Diverts(d, st.Diverts))
	must(t, store.Overs(d, st.Overs))
	must(t, store.Interests(d, st.Interests))
	must(t, store.Fired(d, st.Fired))
	for _, x := range st.Alts {
		must(t, store.Alt(d, x))
	}
	for _, x := range st.Lists {
		must(t, store.List(d, x))
	}
}

// filled is a disk with full.
func filled(t *testing.T) *disk.Disk {
	t.Helper()
	d := formatted(t)
	put(t, d, full())
	return d
}

func holds(t *testing.T, d *disk.Disk, want api.State) {
	t.Helper()
	if st, e := store.Load(d); !same(st, want) || e != api.OK {
		t.Fatalf("Load: %v %d, want %v", st, e, want)
	}
}

func there(d *disk.Disk, p string) bool {
	_, e := d.Stat(p)
	return e == api.OK
}

// write makes a file with a text, or another text of it.
func write(t *testing.T, d *disk.Disk, p, text string) {
	t.Helper()
	if !there(d, p) {
		must(t, d.Do(api.Op{Kind: api.OCreate, Path: p}))
	}
	must(t, d.Do(api.Op{Kind: api.OWrite, Path: p, Text: text}))
}

func mkdir(t *testing.T, d *disk.Disk, p string) {
	t.Helper()
	must(t, d.Do(api.Op{Kind: api.OMkdir, Path: p}))
}

// remove takes away what is at a path, with all below it.
func remove(t *testing.T, d *disk.Disk, p string) {
	t.Helper()
	x, e := d.Stat(p)
	must(t, e)
	if x.Kind != api.KDir {
		must(t, d.Do(api.Op{Kind: api.OUnlink, Path: p}))
		return
	}
	names, _ := d.List(p)
	for _, name := range names {
		remove(t, d, p+"/"+name)
	}
	must(t, d.Do(api.Op{Kind: api.ORmdir, Path: p}))
}

// call is a call that writes, and the state behind it, on a disk that holds full.
type call struct {
	name  string
	do    func(d *disk.Disk) api.Errno
	after func(*api.State)
	steps int
}

// calls are all that write, in the ways in which they can end well.
var calls = []call{
	{"Replace", func(d *disk.Disk) api.Errno { return store.Replace(d, files[1], "") }, func(st *api.State) { st.Diverts = nil }, 5},
	{"Records", func(d *disk.Disk) api.Errno { return store.Records(d, other().Records) }, func(st *api.State) { st.Records = other().Records }, 5},
	{"Diverts", func(d *disk.Disk) api.Errno { return store.Diverts(d, other().Diverts) }, func(st *api.State) { st.Diverts = other().Diverts }, 5},
	{"Overs", func(d *disk.Disk) api.Errno { return store.Overs(d, other().Overs) }, func(st *api.State) { st.Overs = other().Overs }, 5},
	{"Interests", func(d *disk.Disk) api.Errno { return store.Interests(d, other().Interests) }, func(st *api.State) { st.Interests = other().Interests }, 5},
	{"Fired", func(d *disk.Disk) api.Errno { return store.Fired(d, other().Fired) }, func(st *api.State) { st.Fired = other().Fired }, 5},
	{"Records of none", func(d *disk.Disk) api.Errno { return store.Records(d, nil) }, func(st *api.State) { st.Records = nil }, 5},
	{"Alt", func(d *disk.Disk) api.Errno { return store.Alt(d, alt("more")) }, func(st *api.State) { st.Alts = alts.Put(st.Alts, alt("more")) }, 5},
	{"Alt again", func(d *disk.Disk) api.Errno { return store.Alt(d, manual()) }, func(st *api.State) { st.Alts = alts.Put(st.Alts, manual()) }, 5},
	{"List", func(d *disk.Disk) api.Errno { return store.List(d, api.List{Name: "a-", Paths: []string{"/z"}}) }, func(st *api.State) { st.Lists = lists.Put(st.Lists, api.List{Name: "a-", Paths: []string{"/z"}}) }, 5},
	{"List again", func(d *disk.Disk) api.Errno { return store.List(d, api.List{Name: "a", Paths: []string{"/z"}}) }, func(st *api.State) { st.Lists = lists.Put(st.Lists, api.List{Name: "a", Paths: []string{"/z"}}) }, 5},
	{"Unalt", func(d *disk.Disk) api.Errno { return store.Unalt(d, "ed") }, func(st *api.State) { st.Alts = alts.Drop(st.Alts, "ed") }, 2},
	{"Unlist", func(d *disk.Disk) api.Errno { return store.Unlist(d, "a+") }, func(st *api.State) { st.Lists = lists.Drop(st.Lists, "a+") }, 2},
	{"Lock", store.Lock, func(*api.State) {}, 1},
}

// manual is vi with another choice, as it was set.
func manual() api.Alt {
	return api.Alt{Name: "vi", Link: "/vi", Manual: true, Cur: "/a", Slaves: []api.Slave{{Name: "vi.1", Link: "/vi.1"}},
		Choices: []api.Choice{{Path: "/a", Prio: -1, Slaves: []string{""}}, {Path: "/b", Prio: 1, Slaves: []string{"/b.1"}}}}
}

// P14.1

func TestFormat(t *testing.T) {
	d := formatted(t)
	holds(t, d, api.State{})
	want := []string{
		"/", "/etc", "/etc/alternatives", "/var", "/var/lib", "/var/lib/dpkg", "/var/lib/dpkg/alternatives", "/var/lib/dpkg/diversions", "/var/lib/dpkg/info",
		"/var/lib/dpkg/statoverride", "/var/lib/dpkg/status", "/var/lib/dpkg/triggers", "/var/lib/dpkg/triggers/File", "/var/lib/dpkg/triggers/Unincorp", "/var/lib/dpkg/updates",
	}
	image := d.Image()
	for i, x := range image {
		isFile := slices.Contains(files, x.Path)
		entry := api.Entry{Path: want[i], Kind: api.KDir, Meta: api.Meta{Mode: 493}, Node: i + 1}
		if isFile {
			entry.Kind, entry.Meta.Mode = api.KFile, 420
		}
		if x != entry {
			t.Errorf("%v, want %v", x, entry)
		}
	}
	if len(image) != len(want) || d.Steps() != 15 || d.Pending() != 0 || !slices.Equal(d.Kept(), image) {
		t.Errorf("%d entries, %d steps, %d pending", len(image), d.Steps(), d.Pending())
	}
}

// The order is seen by what is there when power goes off.
func TestFormatInOrder(t *testing.T) {
	order := []string{
		"/etc", "/etc/alternatives", "/var", "/var/lib", "/var/lib/dpkg", home + "alternatives", home + "info", home + "triggers", home + "updates",
		files[0], files[1], files[2], files[3], files[4],
	}
	for n := range 15 {
		d := disk.New(api.Limits{})
		d.Fuse(n)
		if e := store.Format(d); e != api.EOFF {
			t.Fatalf("with %d steps: %d", n, e)
		}
		var got []string
		for _, x := range d.Image()[1:] {
			got = append(got, x.Path)
		}
		want := slices.Sorted(slices.Values(order[:n]))
		if !slices.Equal(got, want) || d.Pending() != n {
			t.Errorf("with %d steps: %q, want %q", n, got, want)
		}
	}
	d := disk.New(api.Limits{})
	d.Fuse(15)
	must(t, store.Format(d))
}

func TestFormatEndsAtErrors(t *testing.T) {
	d := disk.New(api.Limits{})
	write(t, d, "/var", "")
	if e := store.Format(d); e != api.EEXIST || !there(d, "/etc/alternatives") || d.Steps() != 4 {
		t.Errorf("where /var is a file: %d, %d steps", e, d.Steps())
	}
	if e := store.Format(formatted(t)); e != api.EEXIST {
		t.Errorf("a second time: %d", e)
	}
	for n := 1; n < 15; n++ {
		d := disk.New(api.Limits{Files: n})
		if e := store.Format(d); e != api.ENFILE || len(d.Image()) != n || d.Pending() != n-1 {
			t.Errorf("with %d files: %d, %d files", n, e, len(d.Image()))
		}
	}
	must(t, store.Format(disk.New(api.Limits{Files: 15})))
	if e := store.Format(disk.New(api.Limits{Name: 11})); e != api.ELONG {
		t.Errorf("with short names: %d", e)
	}
	must(t, store.Format(disk.New(api.Limits{Name: 12, Bytes: 1})))
}

// P14.2

func TestReplace(t *testing.T) {
	for _, left := range []bool{false, true} {
		d := filled(t)
		if left {
			write(t, d, newAt, "what a crash left")
		}
		steps, pending := d.Steps(), 5
		if left {
			pending = 6
		}
		must(t, store.Replace(d, files[0], "text"))
		if s, e := d.Read(files[0]); s != "text" || e != api.OK {
			t.Errorf("%q %d", s, e)
		}
		if x, _ := d.Stat(files[0]); x.Meta != (api.Meta{Mode: 420}) || x.Kind != api.KFile {
			t.Errorf("%v", x)
		}
		if there(d, newAt) || d.Steps()-steps != pending || d.Pending() != 0 || len(d.Dirty()) != 0 || !slices.Equal(d.Image(), d.Kept()) {
			t.Errorf("%d steps, dirty %q", d.Steps()-steps, d.Dirty())
		}
	}
	// Of any path, whether something is there or not.
	d := filled(t)
	must(t, store.Replace(d, "/new", "abc"))
	must(t, store.Replace(d, "/etc/a", ""))
	if s, _ := d.Read("/new"); s != "abc" || !there(d, "/etc/a") {
		t.Error("other paths")
	}
	must(t, d.Do(api.Op{Kind: api.OSymlink, Path: "/l", Text: "/new"}))
	must(t, store.Replace(d, "/l", "d"))
	if x, _ := d.Stat("/l"); x.Kind != api.KFile || x.Text != "d" {
		t.Errorf("in a link's place: %v", x)
	}
	holds(t, d, full())
}

// What was done is seen by what is there when power goes off.
func TestReplaceInOrder(t *testing.T) {
	old, _ := status.Print(full().Records)
	type seen struct {
		exists  bool
		text    string // of updates/new
		dirty   int
		pending int
		at      string // the text at the place
	}
	for n, want := range []seen{
		{true, "left", 1, 2, old},
		{false, "", 0, 3, old},
		{true, "", 0, 4, old},
		{true, "text", 1, 5, old},
		{true, "text", 0, 0, old},
		{false, "", 0, 1, "text"},
	} {
		d := filled(t)
		write(t, d, newAt, "left")
		d.Fuse(n)
		if e := store.Replace(d, files[0], "text"); e != api.EOFF {
			t.Fatalf("with %d steps: %d", n, e)
		}
		got := seen{dirty: len(d.Dirty()), pending: d.Pending()}
		for _, x := range d.Image() {
			switch x.Path {
			case newAt:
				got.exists, got.text = true, x.Text
			case files[0]:
				got.at = x.Text
			}
		}
		if got != want {
			t.Errorf("with %d steps: %v, want %v", n, got, want)
		}
	}
}

func TestReplaceRefused(t *testing.T) {
	long := strings.Repeat("a", api.MaxText)
	for _, c := range []struct {
		p, text string
		want    api.Errno
		steps   int
	}{
		{files[0], long + "a", api.ELONG, 2},
		{files[0] + "/a", "", api.ENOTDIR, 4},
		{"/no/a", "", api.ENOENT, 4},
		{"/etc", "", api.EISDIR, 4},
		{"/", "", api.EARG, 4},
		{"", "", api.EARG, 4},
		{"/a/", long, api.EARG, 4},
		{"/var/lib/dpkg/../a", "", api.EARG, 4},
	} {
		for _, left := range []int{0, 1} {
			d := filled(t)
			if left > 0 {
				write(t, d, newAt, "left")
			}
			steps := d.Steps()
			// The step that takes updates/new away again counts too.
			if e := store.Replace(d, c.p, c.text); e != c.want || there(d, newAt) || d.Steps()-steps != c.steps+left {
				t.Errorf("Replace(%q, %.9q): %d, %d steps", c.p, c.text, e, d.Steps()-steps)
			}
			holds(t, d, full())
		}
	}
	d := filled(t)
	must(t, store.Replace(d, "/etc/long", long))
	// What is there of updates/new is no file.
	mkdir(t, d, newAt)
	steps := d.Steps()
	if e := store.Replace(d, files[0], ""); e != api.EISDIR || d.Steps() != steps || !there(d, newAt) {
		t.Errorf("where updates/new is a directory: %d", e)
	}
	d = filled(t)
	must(t, d.Do(api.Op{Kind: api.OSymlink, Path: newAt, Text: "/etc"}))
	must(t, store.Replace(d, files[0], ""))
	d = filled(t)
	remove(t, d, home+"updates")
	if e := store.Records(d, nil); e != api.ENOENT {
		t.Errorf("without updates: %d", e)
	}
	write(t, d, home+"updates", "")
	if e := store.Records(d, nil); e != api.ENOTDIR {
		t.Errorf("where updates is a file: %d", e)
	}
	holds(t, d, full())
}

// Each file has what its layer prints, and nothing else changes.
func TestDatabases(t *testing.T) {
	d := filled(t)
	st := full()
	text := func(s string, e api.Errno) string {
		must(t, e)
		return s
	}
	want := map[string]string{
		files[0]: text(status.Print(st.Records)), files[1]: text(divs.Print(st.Diverts)), files[2]: text(overs.Print(st.Overs)),
		files[3]: text(trigs.Print(st.Interests)), files[4]: text(trigs.PrintFired(st.Fired)),
		home + "alternatives/ed": text(alts.Print(st.Alts[0])), home + "alternatives/vi": text(alts.Print(st.Alts[1])),
		home + "info/a.list": text(lists.Print(st.Lists[0])), home + "info/a+.list": text(lists.Print(st.Lists[1])), home + "info/b.list": text(lists.Print(st.Lists[2])),
	}
	for _, x := range d.Image() {
		if x.Kind != api.KFile {
			continue
		}
		if s, ok := want[x.Path]; !ok || x.Text != s || x.Meta != (api.Meta{Mode: 420}) {
			t.Errorf("%v", x)
		}
		delete(want, x.Path)
	}
	if len(want) != 0 {
		t.Errorf("not there: %v", want)
	}
}

func TestCalls(t *testing.T) {
	for _, c := range calls {
		d := filled(t)
		want := full()
		c.after(&want)
		steps := d.Steps()
		if e := c.do(d); e != api.OK || d.Steps()-steps != c.steps {
			t.Errorf("%s: %d, %d steps", c.name, e, d.Steps()-steps)
		}
		holds(t, d, want)
		if c.name != "Lock" {
			d.Crash(0, nil)
			holds(t, d, want)
		}
	}
}

// What can't be printed is not written.
func TestNotPrinted(t *testing.T) {
	long := api.Record{Name: "a", Version: "1", State: 7, Depends: slices.Repeat([][]api.Rel{slices.Repeat([]api.Rel{{Name: strings.Repeat("a", 60)}}, 64)}, 64)}
	for i, c := range []struct {
		do   func(*disk.Disk) api.Errno
		want api.Errno
	}{
		{func(d *disk.Disk) api.Errno { return store.Records(d, make([]api.Record, 1)) }, api.EARG},
		{func(d *disk.Disk) api.Errno { return store.Records(d, make([]api.Record, 65)) }, api.EFULL},
		{func(d *disk.Disk) api.Errno { return store.Records(d, []api.Record{long}) }, api.EARG},
		{func(d *disk.Disk) api.Errno { return store.Diverts(d, make([]api.Divert, 1)) }, api.EARG},
		{func(d *disk.Disk) api.Errno { return store.Diverts(d, make([]api.Divert, 65)) }, api.EFULL},
		{func(d *disk.Disk) api.Errno { return store.Overs(d, make([]api.Over, 1)) }, api.EARG},
		{func(d *disk.Disk) api.Errno { return store.Overs(d, make([]api.Over, 65)) }, api.EFULL},
		{func(d *disk.Disk) api.Errno { return store.Interests(d, make([]api.Interest, 1)) }, api.EARG},
		{func(d *disk.Disk) api.Errno { return store.Interests(d, make([]api.Interest, 65)) }, api.EFULL},
		{func(d *disk.Disk) api.Errno { return store.Fired(d, make([]api.Fired, 1)) }, api.EARG},
		{func(d *disk.Disk) api.Errno { return store.Fired(d, make([]api.Fired, 65)) }, api.EFULL},
		{func(d *disk.Disk) api.Errno { return store.Alt(d, api.Alt{}) }, api.EARG},
		{func(d *disk.Disk) api.Errno { return store.Alt(d, alt("A")) }, api.EARG},
		{func(d *disk.Disk) api.Errno { return store.List(d, api.List{}) }, api.EARG},
		{func(d *disk.Disk) api.Errno { return store.List(d, api.List{Name: "../a"}) }, api.EARG},
		{func(d *disk.Disk) api.Errno { return store.Unalt(d, "") }, api.EARG},
		{func(d *disk.Disk) api.Errno { return store.Unalt(d, "..") }, api.EARG},
		{func(d *disk.Disk) api.Errno { return store.Unalt(d, "Ed") }, api.EARG},
		{func(d *disk.Disk) api.Errno { return store.Unlist(d, "") }, api.EARG},
		{func(d *disk.Disk) api.Errno { return store.Unlist(d, "a.list/") }, api.EARG},
		{func(d *disk.Disk) api.Errno { return store.Unalt(d, "ed2") }, api.ENOENT},
		{func(d *disk.Disk) api.Errno { return store.Unlist(d, "a.list") }, api.ENOENT},
	} {
		d := filled(t)
		steps := d.Steps()
		if e := c.do(d); e != c.want || d.Steps() != steps {
			t.Errorf("%d: %d, want %d", i, e, c.want)
		}
		holds(t, d, full())
		// A thing that can't be goes ahead of a disk that can't.
		if e := c.do(nil); e != c.want && c.want != api.ENOENT {
			t.Errorf("%d without a disk: %d, want %d", i, e, c.want)
		}
	}
	d := filled(t)
	mkdir(t, d, home+"info/dir.list")
	mkdir(t, d, home+"alternatives/dir")
	if e := store.Unlist(d, "dir"); e != api.EISDIR {
		t.Errorf("Unlist of a directory: %d", e)
	}
	if e := store.Unalt(d, "dir"); e != api.EISDIR {
		t.Errorf("Unalt of a directory: %d", e)
	}
}

// A disk's limits strike at each step, and leave all as it was.
func TestLimits(t *testing.T) {
	d := filled(t)
	filesNow, bytesNow := len(d.Image()), 0
	for _, x := range d.Image() {
		bytesNow += len(x.Text)
	}
	for _, c := range calls {
		if c.steps < 5 {
			continue
		}
		for _, l := range []struct {
			limits api.Limits
			want   api.Errno
		}{
			{api.Limits{Files: filesNow}, api.ENFILE}, // at OCreate
			{api.Limits{Files: 1}, api.ENFILE},
			{api.Limits{Name: 2}, api.ELONG},   // at OCreate: new
			{api.Limits{Name: 3}, api.ELONG},   // at ORename
			{api.Limits{Bytes: 1}, api.ENOSPC}, // at OWrite, unless there is no text
			{api.Limits{Bytes: bytesNow}, api.ENOSPC},
		} {
			d := filled(t)
			d.Bound(l.limits)
			empty := c.name == "Replace" || c.name == "Records of none"
			want := l.want
			if empty && l.limits.Bytes == bytesNow || strings.HasPrefix(c.name, "Alt") && c.name != "Alt" && l.limits.Name == 3 {
				want = api.OK
			}
			if e := c.do(d); e != want {
				t.Errorf("%s with %v: %d, want %d", c.name, l.limits, e, want)
			}
			if there(d, newAt) {
				t.Errorf("%s with %v: left", c.name, l.limits)
			}
			if want != api.OK {
				holds(t, d, full())
			}
		}
		d := filled(t)
		d.Bound(api.Limits{Files: filesNow + 1, Bytes: bytesNow + 400, Name: 12})
		must(t, c.do(d))
	}
	d = filled(t)
	d.Bound(api.Limits{Files: filesNow})
	if e := store.Lock(d); e != api.ENFILE {
		t.Errorf("Lock: %d", e)
	}
	d.Bound(api.Limits{Name: 3})
	if e := store.Lock(d); e != api.ELONG {
		t.Errorf("Lock: %d", e)
	}
	holds(t, d, full())
}

// P14.3

func corrupt(t *testing.T, d *disk.Disk, what string) {
	t.Helper()
	steps := d.Steps()
	if st, e := store.Load(d); !reflect.DeepEqual(st, api.State{}) || e != api.ECORRUPT || d.Steps() != steps {
		t.Errorf("%s: %v %d", what, st, e)
	}
}

func TestLoad(t *testing.T) {
	d := filled(t)
	image, steps := d.Image(), d.Steps()
	holds(t, d, full())
	if !slices.Equal(d.Image(), image) || d.Steps() != steps {
		t.Error("Load changed the disk")
	}
	put(t, d, other())
	st := full()
	st.Records, st.Diverts, st.Overs, st.Interests, st.Fired = other().Records, other().Diverts, other().Overs, other().Interests, other().Fired
	holds(t, d, st)
}

// Names rise, though their files' names need not.
func TestLoadRises(t *testing.T) {
	d := formatted(t)
	for _, name := range []string{"a.list", "a-", "b", "a", "a0", "a+", "a.", "0"} {
		must(t, store.List(d, api.List{Name: name}))
		must(t, store.Alt(d, alt(name+"x")))
	}
	st, e := store.Load(d)
	must(t, e)
	var names []string
	for _, x := range st.Lists {
		names = append(names, x.Name)
	}
	if want := []string{"0", "a", "a+", "a-", "a.", "a.list", "a0", "b"}; !slices.Equal(names, want) {
		t.Errorf("%q, want %q", names, want)
	}
	if !slices.IsSortedFunc(st.Alts, func(x, y api.Alt) int { return strings.Compare(x.Name, y.Name) }) || len(st.Alts) != 8 {
		t.Errorf("%v", st.Alts)
	}
}

func TestLoadIgnores(t *testing.T) {
	d := filled(t)
	write(t, d, lockAt, "x")
	write(t, d, newAt, "x")
	mkdir(t, d, home+"updates/dir")
	write(t, d, home+"more", "x")
	write(t, d, home+"triggers/more", "x")
	write(t, d, "/etc/alternatives/more", "x")
	holds(t, d, full())
	remove(t, d, home+"updates")
	holds(t, d, full())
	write(t, d, home+"updates", "x")
	holds(t, d, full())
	remove(t, d, "/etc")
	holds(t, d, full())
}

func TestLoadMissing(t *testing.T) {
	for _, p := range append([]string{home + "alternatives", home + "info", home + "triggers", "/var/lib/dpkg", "/var"}, files...) {
		d := filled(t)
		remove(t, d, p)
		corrupt(t, d, p+" is missing")
		if _, e := d.Stat("/var/lib/dpkg"); e == api.OK {
			write(t, d, p, "")
			if slices.Contains(files, p) {
				if _, e := store.Load(d); e != api.OK {
					t.Errorf("%s is empty: %d", p, e)
				}
			} else {
				corrupt(t, d, p+" is a file")
			}
			remove(t, d, p)
			must(t, d.Do(api.Op{Kind: api.OSymlink, Path: p, Text: "/etc"}))
			corrupt(t, d, p+" is a link")
			remove(t, d, p)
			mkdir(t, d, p)
			if slices.Contains(files, p) {
				corrupt(t, d, p+" is a directory")
			}
		}
	}
	corrupt(t, disk.New(api.Limits{}), "an empty disk")
}

// near gives texts that differ from one by one byte: one that is lacking, one
// in another's place, or one more.
func near(s string, f func(string)) {
	const others = " \n\x00aA0/#"
	for i := range len(s) + 1 {
		for j := range len(others) {
			f(s[:i] + others[j:j+1] + s[i:])
		}
		if i == len(s) {
			return
		}
		f(s[:i] + s[i+1:])
		for j := range len(others) {
			f(s[:i] + others[j:j+1] + s[i+1:])
		}
	}
}

// A text that differs by one byte is read as its layer reads it, or is corrupt.
func TestLoadWrongTexts(t *testing.T) {
	for _, c := range []struct {
		p    string
		read func(s string, st *api.State) api.Errno // into a state
	}{
		{files[0], func(s string, st *api.State) (e api.Errno) { st.Records, e = status.Parse(s); return e }},
		{files[1], func(s string, st *api.State) (e api.Errno) { st.Diverts, e = divs.Parse(s); return e }},
		{files[2], func(s string, st *api.State) (e api.Errno) { st.Overs, e = overs.Parse(s); return e }},
		{files[3], func(s string, st *api.State) (e api.Errno) { st.Interests, e = trigs.Parse(s); return e }},
		{files[4], func(s string, st *api.State) (e api.Errno) { st.Fired, e = trigs.ParseFired(s); return e }},
		{home + "alternatives/ed", func(s string, st *api.State) api.Errno {
			x, e := alts.Parse("ed", s)
			st.Alts = alts.Put(st.Alts, x)
			if e == api.OK {
				e = alts.Check(st.Alts)
			}
			return e
		}},
		{home + "info/a+.list", func(s string, st *api.State) api.Errno {
			x, e := lists.Parse("a+", s)
			st.Lists = lists.Put(st.Lists, x)
			return e
		}},
	} {
		d := filled(t)
		text, _ := d.Read(c.p)
		read := 0
		near(text, func(s string) {
			write(t, d, c.p, s)
			st := full()
			if e := c.read(s, &st); e != api.OK {
				corrupt(t, d, fmt.Sprintf("%s is %q", c.p, s))
				return
			}
			read++
			holds(t, d, st)
		})
		if read == 0 {
			t.Errorf("%s: nothing was read", c.p)
		}
		write(t, d, c.p, text)
		holds(t, d, full())
	}
}

func TestLoadWrongNames(t *testing.T) {
	vi, _ := alts.Print(alt("more"))
	for _, name := range []string{"A", "a_b", "-a", ".a", "a#", strings.Repeat("a", 61)} {
		d := filled(t)
		write(t, d, home+"alternatives/"+name, vi)
		corrupt(t, d, "the alternative "+name)
	}
	for _, name := range []string{"a", "list", ".list", "A.list", "-.list", "a.lists", "a.LIST", "alist", "c.list.", strings.Repeat("a", 61) + ".list"} {
		d := filled(t)
		write(t, d, home+"info/"+name, "/a\n")
		corrupt(t, d, "the list "+name)
	}
	d := filled(t)
	for _, name := range []string{"more", strings.Repeat("a", 60)} {
		write(t, d, home+"alternatives/"+name, strings.ReplaceAll(vi, "more", name[:2]))
		write(t, d, home+"info/"+name+".list", "/a\n")
		if _, e := store.Load(d); e != api.OK {
			t.Errorf("%s: %d", name, e)
		}
	}
	// What has a right name, but is no file.
	for _, p := range []string{home + "alternatives/more", home + "info/more.list"} {
		d := filled(t)
		mkdir(t, d, p)
		corrupt(t, d, p+" is a directory")
		remove(t, d, p)
		must(t, d.Do(api.Op{Kind: api.OSymlink, Path: p, Text: home + "info/b.list"}))
		corrupt(t, d, p+" is a link")
	}
}

// What is right by itself may be wrong with the others.
func TestLoadChecksAll(t *testing.T) {
	d := filled(t)
	x := alt("more")
	x.Link = "/vi"
	must(t, store.Alt(d, x))
	corrupt(t, d, "a link twice")
	x = alt("vi")
	x.Slaves, x.Choices[0].Slaves = []api.Slave{{Name: "ed", Link: "/e"}}, []string{""}
	d = filled(t)
	must(t, store.Alt(d, x))
	corrupt(t, d, "a name twice")
	d = formatted(t)
	for i := range 65 {
		if i == 64 {
			if st, e := store.Load(d); e != api.OK || len(st.Alts) != 64 || len(st.Lists) != 64 {
				t.Errorf("64 of each: %d", e)
			}
		}
		must(t, store.Alt(d, alt(fmt.Sprintf("a%02d", i))))
		if i < 64 {
			must(t, store.List(d, api.List{Name: fmt.Sprintf("a%02d", i)}))
		}
	}
	corrupt(t, d, "65 alternatives")
	must(t, store.Unalt(d, "a07"))
	if _, e := store.Load(d); e != api.OK {
		t.Errorf("64 again: %d", e)
	}
	must(t, store.List(d, api.List{Name: "z"}))
	corrupt(t, d, "65 lists")
}

// P14.4

func TestLock(t *testing.T) {
	d := filled(t)
	if e := store.Unlock(d); e != api.ENOENT {
		t.Errorf("Unlock of nothing: %d", e)
	}
	steps := d.Steps()
	must(t, store.Lock(d))
	if x, _ := d.Stat(lockAt); x.Kind != api.KFile || x.Meta != (api.Meta{Mode: 420}) || x.Text != "" || d.Pending() != 1 {
		t.Errorf("%v", x)
	}
	if e := store.Lock(d); e != api.EBUSY || d.Steps() != steps+1 {
		t.Errorf("a second time: %d", e)
	}
	holds(t, d, full())
	must(t, store.Unlock(d))
	if there(d, lockAt) || d.Steps() != steps+2 || d.Pending() != 2 {
		t.Error("Unlock")
	}
	must(t, store.Lock(d))
	// Whatever is there is a lock.
	remove(t, d, lockAt)
	mkdir(t, d, lockAt)
	if e := store.Lock(d); e != api.EBUSY {
		t.Errorf("where a directory is: %d", e)
	}
	if e := store.Unlock(d); e != api.EISDIR {
		t.Errorf("Unlock of a directory: %d", e)
	}
	remove(t, d, lockAt)
	must(t, d.Do(api.Op{Kind: api.OSymlink, Path: lockAt, Text: "x"}))
	if e := store.Lock(d); e != api.EBUSY {
		t.Errorf("where a link is: %d", e)
	}
	must(t, store.Unlock(d))
	for p, want := range map[string]api.Errno{home[:len(home)-1]: api.ENOENT, "/var": api.ENOENT} {
		d := filled(t)
		remove(t, d, p)
		if e := store.Lock(d); e != want {
			t.Errorf("Lock without %s: %d", p, e)
		}
		write(t, d, p, "")
		if e := store.Lock(d); e != api.ENOTDIR {
			t.Errorf("Lock where %s is a file: %d", p, e)
		}
	}
}

func TestClean(t *testing.T) {
	for _, c := range []struct {
		lock, left bool
		steps      int
	}{
		{false, false, 0}, {true, false, 2}, {false, true, 2}, {true, true, 3},
	} {
		for fuse := range c.steps + 1 {
			d := filled(t)
			if c.lock {
				must(t, store.Lock(d))
			}
			if c.left {
				write(t, d, newAt, "x")
			}
			steps := d.Steps()
			d.Fuse(fuse)
			want := api.EOFF
			if fuse == c.steps {
				want = api.OK
			}
			if e := store.Clean(d); e != want || d.Steps()-steps != fuse {
				t.Errorf("%v with %d steps: %d", c, fuse, e)
			}
			var left []string
			for _, x := range d.Image() {
				if x.Path == newAt || x.Path == lockAt {
					left = append(left, x.Path)
				}
			}
			// updates/new goes first.
			var have []string
			if c.lock {
				have = append(have, lockAt)
			}
			if c.left {
				have = append(have, newAt)
			}
			if want := have[:max(len(have)-fuse, 0)]; !slices.Equal(left, want) {
				t.Errorf("%v with %d steps: left %q, want %q", c, fuse, left, want)
			}
			if fuse < c.steps {
				continue
			}
			if c.steps > 0 && d.Pending() != 0 {
				t.Errorf("%v: %d pending", c, d.Pending())
			}
			must(t, store.Clean(d))
			if d.Steps()-steps != c.steps {
				t.Errorf("%v: a second time %d steps", c, d.Steps()-steps-c.steps)
			}
			holds(t, d, full())
		}
	}
	d := filled(t)
	must(t, store.Lock(d))
	mkdir(t, d, newAt)
	if e := store.Clean(d); e != api.EISDIR || !there(d, lockAt) || !there(d, newAt) {
		t.Errorf("where updates/new is a directory: %d", e)
	}
	remove(t, d, newAt)
	remove(t, d, lockAt)
	mkdir(t, d, lockAt)
	write(t, d, newAt, "")
	if e := store.Clean(d); e != api.EISDIR || there(d, newAt) {
		t.Errorf("where lock is a directory: %d", e)
	}
	must(t, store.Clean(disk.New(api.Limits{})))
}

// Without a disk, or without power, nothing is read or written.
func TestNoDiskNoPower(t *testing.T) {
	off := filled(t)
	must(t, store.Lock(off))
	off.Fuse(0)
	off.Sync("/")
	image := off.Image()
	others := []call{
		{name: "Format", do: store.Format}, {name: "Unlock", do: store.Unlock},
		{name: "Load", do: func(d *disk.Disk) api.Errno {
			st, e := store.Load(d)
			if !reflect.DeepEqual(st, api.State{}) {
				t.Errorf("Load: %v", st)
			}
			return e
		}},
	}
	for _, c := range append(others, calls...) {
		if e := c.do(nil); e != api.ENIL {
			t.Errorf("%s without a disk: %d", c.name, e)
		}
		if e := c.do(new(disk.Disk)); e != api.ENIL {
			t.Errorf("%s with a disk that nobody made: %d", c.name, e)
		}
		if e := c.do(off); e != api.EOFF {
			t.Errorf("%s without power: %d", c.name, e)
		}
	}
	// Nothing exists there that Clean could take away.
	for _, d := range []*disk.Disk{nil, new(disk.Disk), off} {
		must(t, store.Clean(d))
	}
	if !slices.Equal(off.Image(), image) {
		t.Error("something was written without power")
	}
}

// P14.5

// Whatever is kept of what was pending and dirty, all is as it was, or a
// database is replaced.
func TestAtOnce(t *testing.T) {
	old := filled(t).Kept()
	for _, c := range append(calls, call{"Unlock", store.Unlock, func(*api.State) {}, 1}, call{"Clean", store.Clean, func(*api.State) {}, 3}) {
		want := full()
		c.after(&want)
		before, after := 0, 0
		for fuse := range c.steps + 2 {
			for _, keep := range []int{0, 1, 2, 3, 4, 5, 6} {
				for _, cut := range []int{0, 1, 7, 1 << 20, -1} {
					d := filled(t)
					if !slices.Equal(d.Kept(), old) {
						t.Fatal("another disk")
					}
					if c.name == "Unlock" || c.name == "Clean" || fuse%2 > 0 && c.name != "Lock" {
						must(t, store.Lock(d))
						write(t, d, newAt, "what a crash left")
					}
					d.Fuse(fuse)
					c.do(d)
					d.Crash(keep, []int{cut, cut, cut})
					st, e := store.Load(d)
					switch {
					case e == api.OK && same(st, full()):
						before++
					case e == api.OK && same(st, want):
						after++
					default:
						t.Fatalf("%s with %d steps, %d kept, %d of a text: %v %d", c.name, fuse, keep, cut, st, e)
					}
				}
			}
		}
		if before == 0 || after == 0 && !same(want, full()) {
			t.Errorf("%s: %d times as before, %d as after", c.name, before, after)
		}
	}
}

// What was answered as done lasts, whatever crash comes then.
func TestDoneLasts(t *testing.T) {
	for _, c := range calls {
		want := full()
		c.after(&want)
		for keep := range 3 {
			d := filled(t)
			d.Fuse(c.steps)
			must(t, c.do(d))
			d.Crash(keep, nil)
			holds(t, d, want)
		}
	}
}

// P14.6

// Behind an error all is as it was, also where power went off and nothing that
// was pending is kept; and what comes next finds nothing in its way.
func TestErrorsChangeNothing(t *testing.T) {
	for _, c := range calls {
		for fuse := range c.steps {
			d := filled(t)
			d.Fuse(fuse)
			if e := c.do(d); e != api.EOFF {
				t.Errorf("%s with %d steps: %d", c.name, fuse, e)
			}
			if _, e := store.Load(d); e != api.EOFF {
				t.Errorf("%s with %d steps: Load tells %d", c.name, fuse, e)
			}
			d.Crash(0, nil)
			holds(t, d, full())
			must(t, store.Clean(d))
			must(t, c.do(d))
			want := full()
			c.after(&want)
			holds(t, d, want)
		}
	}
}
